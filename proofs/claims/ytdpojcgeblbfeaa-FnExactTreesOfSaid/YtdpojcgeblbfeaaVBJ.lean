/- One text out of several: Conn RdQ FireS RdI RdJ RdK RdL RdR. -/
import Derived.Test.YtdpojcgeblbfeaaVBG
import Derived.Test.YtdpojcgeblbfeaaVBB
import Derived.Test.YtdpojcgeblbfeaaVBI
import Derived.Deep.CutRange
import Derived.Deep.LoopGhost
set_option linter.all false
/- A connected graph is cut by every set of vertices. -/
namespace Go.Proofs.Ytdpojcgeblbfeaa
open Go.RowKit

theorem near_cut {es : List (Int × Int)} {p : Int → Bool} {v : Int} {k : Nat} {u : Int} (h : Near es v k u) (hne : p v ≠ p u) : ∃ e ∈ es, p e.1 ≠ p e.2 := by
  induction h with
  | start => exact absurd rfl hne
  | stay _ ih => exact ih hne
  | @step k a b _ ht ih =>
    by_cases hab : p v = p a
    · rcases ht with g | g
      · exact ⟨(a, b), g, by rw [← hab]; exact hne⟩
      · exact ⟨(b, a), g, by simp only; rw [← hab]; exact Ne.symm hne⟩
    · exact ih hab
theorem Conn.cut {M : Nat} {es : List (Int × Int)} (h : Conn (M : Int) es) : Cut M es := by
  rintro p ⟨x, hx0, hx1, hpx⟩ ⟨y, hy0, hy1, hpy⟩
  obtain ⟨k1, n1⟩ := h x hx0 hx1
  obtain ⟨k2, n2⟩ := h y hy0 hy1
  cases hp : p 0 with
  | true => exact near_cut n2 (by rw [hp, hpy]; decide)
  | false => exact near_cut n1 (by rw [hp, hpx]; decide)
end Go.Proofs.Ytdpojcgeblbfeaa

/- Reducing: what the walks ask of the plain math. -/
namespace Go.Proofs.Ytdpojcgeblbfeaa
open Go.RowKit

section
variable {M : Nat} {es : List (Int × Int)} {d : List Int} {q : Nat} {f : Nat → Int} {σ : Nat → Int}
theorem addSet_sum {U : Int → Bool} {t : Int} (ht : 0 ≤ t) (hx : ∃ v, v < M ∧ U ((v : Nat) : Int) = true) : sumV f M + t ≤ sumV (addSet f U t) M := by
  obtain ⟨v, hv, hU⟩ := hx
  have h1 := sumV_le M (f := fun u => f u + t * ind u (v : Int)) (g := addSet f U t) (fun u _ => by
    unfold addSet ind
    by_cases e : u = v
    · subst e
      rw [if_pos rfl, if_pos hU]; omega
    · rw [if_neg (by omega)]
      split <;> omega)
  rw [sumV_add, show (fun u => t * ind u (v : Int)) = (fun u => (fun _ => t) u * ind u (v : Int)) from rfl, sumV_ind, if_pos hv] at h1
  exact h1
def upU (ord : List Int) (k : Nat) (x : Int) : Bool := !inL ord x && decide (x < (k : Int))
theorem Dv_get (hn : es.length ≤ 12) (hd : ∀ u, -300 ≤ d.getD u 0 ∧ d.getD u 0 ≤ 300) (hes : ∀ e ∈ es, 0 ≤ e.1 ∧ e.1 < e.2 ∧ e.2 < (M : Int)) (hf : ∀ u, u < M → -1000000000 ≤ f u ∧ f u ≤ 1000000000) {u : Nat} (hu : u < M) : (chipsOf M (Dv d es f)).getD u 0 = Dv d es f u :=
  chips_get hu (Dv_bound hn (fun u => by have := hd u; omega) hes hf u)
theorem Ph1.wide (h : Ph1 M es d q f) (hw : Wt M es q σ) (hM : M ≤ 6) (hes : ∀ e ∈ es, 0 ≤ e.1 ∧ e.1 < e.2 ∧ e.2 < (M : Int)) (hd : ∀ u, -300 ≤ d.getD u 0 ∧ d.getD u 0 ≤ 300) : ∀ u, u < M → -1000000000 ≤ f u ∧ f u ≤ 1000000000 := fun u hu => by
  have := h.low hw hM hes hd u hu
  omega
theorem Ph1.one (h : Ph1 M es d q f) (hn : es.length ≤ 12) (hes : ∀ e ∈ es, 0 ≤ e.1 ∧ e.1 < e.2 ∧ e.2 < (M : Int)) {v : Nat} (hv : v ≠ q) (hlt : Dv d es f v < 0) : Ph1 M es d q (addAt f v (-1)) :=
  h.step hes hv (k := 1) (by omega) (by have := nets_self v es (fun e he => (hes e he).2.1); omega)
theorem Ph2.next (h : Ph2 M es d q σ f) (hw : Wt M es q σ) (hq : q < M) (hes : ∀ e ∈ es, 0 ≤ e.1 ∧ e.1 < e.2 ∧ e.2 < (M : Int)) {t : Int} (ht : 0 ≤ t)
    (hc : ∀ v : Nat, v < M → ¬ (v : Int) ∈ burntL M es (chipsOf M (Dv d es f)) (q : Int) → t * heat (inL (burntL M es (chipsOf M (Dv d es f)) (q : Int))) v es ≤ Dv d es f v) :
    Ph2 M es d q σ (addSet f (upU (burntL M es (chipsOf M (Dv d es f)) (q : Int)) M) t) := by
  obtain ⟨hb, hnx⟩ := burntL_all (M := M) (es := es) (d := chipsOf M (Dv d es f)) (q := (q : Int)) (by omega)
  refine h.fire hw hes ht ?_ fun v hv hU => ?_
  · simp [upU, inL, hb.first]
  · simp only [upU, Bool.and_eq_true, Bool.not_eq_true', decide_eq_true_eq] at hU
    have h1 := hc v hv (by simpa [inL] using hU.1)
    rw [heat_congr (r := inL (burntL M es (chipsOf M (Dv d es f)) (q : Int))) v es fun e he => ?_]
    · exact h1
    · obtain ⟨g1, g2, g3⟩ := hes e he
      have a1 : e.1 < (M : Int) := by omega
      simp [upU, a1, g3]
theorem Ph2.one (h : Ph2 M es d q σ f) (hw : Wt M es q σ) (hM : M ≤ 6) (hn : es.length ≤ 12) (hq : q < M) (hd : ∀ u, -300 ≤ d.getD u 0 ∧ d.getD u 0 ≤ 300) (hes : ∀ e ∈ es, 0 ≤ e.1 ∧ e.1 < e.2 ∧ e.2 < (M : Int)) :
    Ph2 M es d q σ (addSet f (upU (burntL M es (chipsOf M (Dv d es f)) (q : Int)) M) 1) :=
  h.next hw hq hes (by omega) fun v hv hnb => by
    have h1 := nextV_no (burntL_all (M := M) (es := es) (d := chipsOf M (Dv d es f)) (q := (q : Int)) (by omega)).2 v hv
    simp only [catchV, Bool.and_eq_false_iff, decide_eq_false_iff_not, Bool.not_eq_false'] at h1
    rw [Dv_get hn hd hes (h.high hw hM hes) hv] at h1
    rcases h1 with g | g
    · omega
    · exact absurd (by simpa [inL] using g) hnb
theorem Ph2.more {ord : List Int} (hb : Burns M (q : Int) ord) (hl : ord.length ≠ M) : ∃ v, v < M ∧ upU ord M ((v : Nat) : Int) = true := by
  apply Classical.byContradiction
  intro hno
  refine hl (hb.full_iff.2 fun v hv => ?_)
  apply Classical.byContradiction
  intro hn
  exact hno ⟨v, hv, by simp [upU, inL, hn, hv]⟩
theorem Ph2.red (h : Ph2 M es d q σ f) (hw : Wt M es q σ) (hM : M ≤ 6) (hes : ∀ e ∈ es, 0 ≤ e.1 ∧ e.1 < e.2 ∧ e.2 < (M : Int)) (hl : (burntL M es (chipsOf M (Dv d es f)) (q : Int)).length = M) : IsRed M es d q f := ⟨h.zero, h.high hw hM hes, h.pos, hl⟩
theorem debt_Dv (hn : es.length ≤ 12) (hd : ∀ u, -300 ≤ d.getD u 0 ∧ d.getD u 0 ≤ 300) (hes : ∀ e ∈ es, 0 ≤ e.1 ∧ e.1 < e.2 ∧ e.2 < (M : Int)) (hf : ∀ u, u < M → -1000000000 ≤ f u ∧ f u ≤ 1000000000) {u : Nat} (hu : u < M) : debtAt (chipsOf M (Dv d es f)) (q : Int) u = (!decide ((u : Int) = (q : Int)) && decide (Dv d es f u < 0)) := by
  rw [debtAt, Dv_get hn hd hes hf hu]
theorem noDebt (hn : es.length ≤ 12) (hd : ∀ u, -300 ≤ d.getD u 0 ∧ d.getD u 0 ≤ 300) (hes : ∀ e ∈ es, 0 ≤ e.1 ∧ e.1 < e.2 ∧ e.2 < (M : Int)) (hf : ∀ u, u < M → -1000000000 ≤ f u ∧ f u ≤ 1000000000) (h : hasDebt (chipsOf M (Dv d es f)) (q : Int) = false) : ∀ u, u < M → u ≠ q → 0 ≤ Dv d es f u := fun u hu huq => by
  have h1 : debtAt (chipsOf M (Dv d es f)) (q : Int) u = false := by
    rw [hasDebt, List.any_eq_false, chipsOf_len] at h
    simpa using h u (List.mem_range.2 hu)
  rw [debt_Dv hn hd hes hf hu] at h1
  have : ¬ (u : Int) = (q : Int) := by omega
  simp [this] at h1
  exact h1
end
end Go.Proofs.Ytdpojcgeblbfeaa

/- The specification's l04Fire. -/
namespace Go.Proofs.Ytdpojcgeblbfeaa
open Go.RowKit

end Go.Proofs.Ytdpojcgeblbfeaa

/- The program's reducing: valence, fire, payDebts. -/
namespace Go.Proofs.Ytdpojcgeblbfeaa
open Go.RowKit

theorem nets_neg {v : Nat} : ∀ {es : List (Int × Int)}, (∀ e ∈ es, e.1 < e.2) → (∃ e ∈ es, (v : Int) = e.1 ∨ (v : Int) = e.2) → nets (v : Int) v es ≤ -1
  | [], _, ⟨e, he, _⟩ => by simp at he
  | e :: l, h, ⟨x, hx, hv⟩ => by
    have h1 := h e (by simp)
    have h2 := (nets_self v l (fun x hx => h x (by simp [hx]))).2
    have key : net (v : Int) v e ≤ 0 := by
      unfold net ind
      repeat' split
      all_goals omega
    rw [List.mem_cons] at hx
    rw [nets]
    rcases hx with rfl | hx
    · have : net (v : Int) v x ≤ -1 := by
        unfold net ind
        repeat' split
        all_goals omega
      omega
    · have ih := nets_neg (es := l) (fun x hx => h x (by simp [hx])) ⟨x, hx, hv⟩
      omega
theorem val_pos {M : Nat} {es : List (Int × Int)} {v q : Nat} (hc : Cut M es) (hes : ∀ e ∈ es, 0 ≤ e.1 ∧ e.1 < e.2 ∧ e.2 < (M : Int)) (hv : v < M) (hq : q < M) (hne : v ≠ q) : nets (v : Int) v es ≤ -1 := by
  refine nets_neg (fun e he => (hes e he).2.1) ?_
  obtain ⟨e, he, h⟩ := hc (fun x => decide (x = (v : Int))) ⟨(v : Int), by omega, by omega, by simp⟩ ⟨(q : Int), by omega, by omega, by simp; omega⟩
  refine ⟨e, he, ?_⟩
  by_cases h1 : e.1 = (v : Int)
  · exact .inl h1.symm
  · by_cases h2 : e.2 = (v : Int)
    · exact .inr h2.symm
    · simp [h1, h2] at h
theorem net_self {v : Nat} {e : Int × Int} (h : e.1 < e.2) : net (v : Int) v e = if (v : Int) = e.1 ∨ (v : Int) = e.2 then -1 else 0 := by
  unfold net ind
  repeat' split
  all_goals omega
set_option maxRecDepth 100000 in
set_option maxHeartbeats 2000000 in
theorem valence_any (pb cA v B : Nat) (A : Option Addr) (G : Value) (es : List (Int × Int)) (w : World) (hBw : B ≤ w.heap.size) (hn : es.length ≤ 12) (hes : ∀ e ∈ es, e.1 < e.2) (hB : Blk w pb 112 #[.slice A es.length cA, G]) (hE : EdgeS w B A es) :
    Calls Try.prog 195 #[.pointer (some ⟨pb, 0, none⟩), .int .i64 (v : Int)] w fun e w' => e = .returned (.int .i64 (-nets (v : Int) v es)) ∧ Below w.heap.size w w' := by
  have q0 : w.cell? ⟨pb, 0, none⟩ = some (.slice A es.length cA) := by rw [hB.cell]; rfl
  have HE := Lib.hid hE
  have HES := Lib.hid hes
  clear hE hes hB
  go_enter Try.func195, Try.ntmps195
  go_wp2
  go_loopw [5, 13] (fun n i wr => ∃ k : Nat, k ≤ es.length ∧ i = .int .i64 k ∧ n = .int .i64 (-nets (v : Int) v (es.take k)) ∧ Below w.heap.size w wr) (fun _ i _ => es.length - (intOf i).toNat)
  case atStart => exact ⟨0, Nat.zero_le _, rfl, by simp [nets], Below.refl _ _⟩
  case round =>
    obtain ⟨k, hk, rfl, rfl, hb⟩ := hrel
    have HB := Lib.hid hb
    have hbw := hb.size
    clear hb q0
    by_cases hlt : k < es.length
    · obtain ⟨b1, o1, e, rfl, hb1, he, hc0, hc1⟩ := (HE.out.keep (fun p hp => HB.out.cell (by omega)) (Nat.le_refl _)).at_ hlt
      have hlt2 := HES.out e (List.mem_of_getElem? he)
      have hi0 : (0 : Int) ≤ (k : Int) := Int.natCast_nonneg _
      have hi1 : (k : Int) < (es.length : Int) := by omega
      have hns := nets_self v (es.take k) (fun x hx => HES.out x (List.mem_of_mem_take hx))
      have hnk : (es.take k).length ≤ 12 := by rw [List.length_take]; omega
      have HN := Lib.hid ((nets_snoc (v : Int) v he).trans (by rw [net_self hlt2]))
      have HBA := Lib.hid (HB.out.alloc HB.out.size (Obj.cells #[.int .i64 e.1, .int .i64 e.2] 121))
      obtain ⟨x, hx⟩ : ∃ x, x = nets (v : Int) v (es.take k) := ⟨_, rfl⟩
      rw [← hx] at hns HN ⊢
      have hx0 : -12 ≤ x := by omega
      have hx1 : x ≤ 0 := hns.2
      have hx2 : 0 ≤ -x := by omega
      have hx3 : -x ≤ 12 := by omega
      clear hx he hns hnk hlt2
      by_cases h1 : e.1 = (v : Int)
      · have t1 : (e.1 == (v : Int)) = true := by simp [h1]
        have HN2 := Lib.hid (HN.out.trans (by rw [if_pos (.inl h1.symm)]))
        clear h1
        go_wp2
        exact ⟨⟨k + 1, by omega, by go_num, by rw [HN2.out]; congr 1; omega, HBA.out⟩, by simp [intOf]; omega⟩
      · have t1 : (e.1 == (v : Int)) = false := by simp [h1]
        by_cases h2 : e.2 = (v : Int)
        · have t2 : (e.2 == (v : Int)) = true := by simp [h2]
          have HN2 := Lib.hid (HN.out.trans (by rw [if_pos (.inr h2.symm)]))
          clear h1 h2
          go_wp2
          exact ⟨⟨k + 1, by omega, by go_num, by rw [HN2.out]; congr 1; omega, HBA.out⟩, by simp [intOf]; omega⟩
        · have t2 : (e.2 == (v : Int)) = false := by simp [h2]
          have HN2 := Lib.hid (HN.out.trans (by rw [if_neg (by omega)]))
          clear h1 h2
          go_wp2
          exact ⟨⟨k + 1, by omega, by go_num, by rw [HN2.out]; congr 1; omega, HBA.out⟩, by simp [intOf]; omega⟩
    · have HQ := Lib.hid (show es.take k = es from List.take_of_length_le (by omega))
      rw [HQ.out]
      go_wp2
      go_ret
      exact ⟨rfl, HB.out⟩

structure RdI (wr : World) (B pr pb g cg gs M q : Nat) (A : Option Addr) (cA : Nat) (es : List (Int × Int)) (d : List Int) (f : Nat → Int) : Prop where
  red : Blk wr pr 115 #[.pointer (some ⟨pb, 0, none⟩), .int .i64 (q : Int), .slice (some ⟨gs, 0, none⟩) M M]
  brd : Blk wr pb 112 #[.slice A es.length cA, .slice (some ⟨g, 0, none⟩) M cg]
  chips : Chips wr g (chipsOf M (Dv d es f))
  scr : Chips wr gs (chipsOf M f)
structure RdN (B pr pb g gs : Nat) : Prop where
  n1 : B ≤ g
  n2 : B ≤ gs
  n3 : B ≤ pb
  n4 : B ≤ pr
  e1 : g ≠ gs
  e2 : g ≠ pb
  e3 : g ≠ pr
  e4 : gs ≠ pb
  e5 : gs ≠ pr
theorem RdI.below {wr w2 : World} {B pr pb g cg gs M q : Nat} {A : Option Addr} {cA : Nat} {es : List (Int × Int)} {d : List Int} {f : Nat → Int} (h : RdI wr B pr pb g cg gs M q A cA es d f) (hb : Below wr.heap.size wr w2) : RdI w2 B pr pb g cg gs M q A cA es d f :=
  ⟨h.red.below hb h.red.lt, h.brd.below hb h.brd.lt, h.chips.below hb, h.scr.below hb⟩
set_option maxRecDepth 100000 in
set_option maxHeartbeats 2000000 in
theorem fireR_any (B pr pb g cg gs M q v : Nat) (A : Option Addr) (cA : Nat) (es : List (Int × Int)) (d : List Int) (f : Nat → Int) (t : Int) (w : World) (hBw : B ≤ w.heap.size) (hv : v < M) (hn : es.length ≤ 12) (hes : ∀ e ∈ es, 0 ≤ e.1 ∧ e.1 < e.2 ∧ e.2 < (M : Int)) (hE : EdgeS w B A es) (hN : RdN B pr pb g gs) (hR : RdI w B pr pb g cg gs M q A cA es d f) :
    Calls Try.prog 196 #[.pointer (some ⟨pr, 0, none⟩), .int .i64 (v : Int), .int .i64 t] w fun e w' => e = .returned (.tuple #[]) ∧ RdI w' B pr pb g cg gs M q A cA es d (addAt f v t) ∧ Below B w w' ∧ (∀ i, i < w.heap.size → i ≠ g → i ≠ gs → w'.heap[i]? = w.heap[i]?) := by
  have q2 : w.cell? ⟨pr, 2, none⟩ = some (.slice (some ⟨gs, 0, none⟩) M M) := by rw [hR.red.cell]; rfl
  have q0 : w.cell? ⟨pr, 0, none⟩ = some (.pointer (some ⟨pb, 0, none⟩)) := by rw [hR.red.cell]; rfl
  obtain ⟨d0, f0⟩ := hR.scr.cell v _ (chipsOf_at f hv)
  have hC1 := hR.scr.set_ (a := v) (by rw [chipsOf_len]; exact hv) (wrap64 (wrap64 (f v) + t))
  rw [chipsOf_set M f v _ t (wrap64_addL _ _)] at hC1
  have hm1 : Moves gs (gs + 1) w (w.setCell ⟨gs, v, none⟩ (.int .i64 (wrap64 (wrap64 (f v) + t)))) := (Moves.refl _ _ _).set_ v _
  have hN1 := hN.e1
  have hN2 := hN.e2
  have hN3 := hN.e3
  have hN4 := hN.e4
  have hN5 := hN.e5
  have hr1 := hR.red.moves hm1 (by omega)
  have hb1 := hR.brd.moves hm1 (by omega)
  have hc1 := hR.chips.moves hm1 (by omega)
  have hbl1 := hm1.below hN.n2 hBw
  have hsz : B ≤ (w.setCell ⟨gs, v, none⟩ (.int .i64 (wrap64 (wrap64 (f v) + t)))).heap.size := by simp [World.setCell]; exact hBw
  have hE1 := hE.keep (fun p hp => hbl1.cell (by omega)) (Nat.le_refl _)
  have FR := Lib.hid (fire_any pb g M cg cA B A es (Dv d es f) (v : Int) t _ (Ne.symm hN2) hN.n1 hsz hn hes hb1 hc1 hE1)
  have HF : Hid (chipsOf M (fireF (Dv d es f) (v : Int) t es) = chipsOf M (Dv d es (addAt f v t))) := Lib.hid (chipsOf_eq fun u _ => by rw [Dv_addAt d f v t u (fun e he => ⟨(hes e he).1, (hes e he).2.1⟩), fireF])
  have p0 : (w.setCell ⟨gs, v, none⟩ (.int .i64 (wrap64 (wrap64 (f v) + t)))).cell? ⟨pr, 0, none⟩ = some (.pointer (some ⟨pb, 0, none⟩)) := by rw [hr1.cell]; rfl
  have hv0 : (0 : Int) ≤ (v : Int) := Int.natCast_nonneg _
  have hv1 : (v : Int) < (M : Int) := by omega
  have HR1 := Lib.hid hr1
  have HB1 := Lib.hid hb1
  have HC1 := Lib.hid hC1
  have HBL := Lib.hid hbl1
  have HSZ := Lib.hid hsz
  have HNN := Lib.hid hN
  have HMV := Lib.hid hm1
  clear hr1 hb1 hc1 hC1 hbl1 hsz hm1 hE1 hE hR hN hN1 hN2 hN3 hN4 hN5 hes q0
  have hn1 := HNN.out.e5
  go_enter Try.func196, Try.ntmps196
  go_wp2_with fail
  refine FR.out.mono ?_
  rintro e w2 ⟨rfl, hc2, hm2⟩
  rw [HF.out] at hc2
  have a1 := HNN.out.e1
  have a2 := HNN.out.e2
  have a3 := HNN.out.e3
  have HR2 := Lib.hid (show RdI w2 B pr pb g cg gs M q A cA es d (addAt f v t) from ⟨HR1.out.moves hm2 (by omega), HB1.out.moves hm2 (by omega), hc2, HC1.out.moves hm2 (by omega)⟩)
  have HB2 := Lib.hid (belowMoves HBL.out hm2 HNN.out.n1 HSZ.out)
  have HK2 := Lib.hid (show ∀ i, i < w.heap.size → i ≠ g → i ≠ gs → w2.heap[i]? = w.heap[i]? from fun i hi h1 h2 => (hm2.block i (Nat.lt_of_lt_of_le hi HMV.out.size) (by omega)).trans (HMV.out.block i hi (by omega)))
  clear hc2 hm2 a1 a2 a3
  go_wp2
  go_end0
  exact ⟨rfl, HR2.out, HB2.out, HK2.out⟩
end Go.Proofs.Ytdpojcgeblbfeaa

/- The program's payDebts. -/
namespace Go.Proofs.Ytdpojcgeblbfeaa
open Go.RowKit

theorem borrow_k {x V : Int} (hx : x < 0) (hx2 : -1000000000000 ≤ x) (hV : 1 ≤ V) (hV2 : V ≤ 12) : 1 ≤ (-x + V - 1).tdiv V ∧ (-x + V - 1).tdiv V ≤ 2000000000000 ∧ x + (-x + V - 1).tdiv V * V ≤ 300 := by
  have h0 : 0 ≤ -x + V - 1 := by omega
  rw [Int.tdiv_eq_ediv_of_nonneg h0]
  have h1 := Int.ediv_mul_le (-x + V - 1) (show V ≠ 0 by omega)
  have h2 : 1 ≤ (-x + V - 1) / V := by
    rw [Int.le_ediv_iff_mul_le (by omega)]
    omega
  have h3 : (-x + V - 1) / V ≤ (-x + V - 1) := Int.ediv_le_self _ h0
  omega
set_option maxRecDepth 100000 in
set_option maxHeartbeats 4000000 in
theorem payDebts_any (B pr pb g cg gs M q : Nat) (A : Option Addr) (cA : Nat) (es : List (Int × Int)) (d : List Int) (w : World) (hM : M ≤ 6) (hq : q < M) (hn : es.length ≤ 12) (hes : ∀ e ∈ es, 0 ≤ e.1 ∧ e.1 < e.2 ∧ e.2 < (M : Int)) (hdb : ∀ u, -300 ≤ d.getD u 0 ∧ d.getD u 0 ≤ 300) (hc : Cut M es)
    (hBw : B ≤ w.heap.size) (hE : EdgeS w B A es) (hN : RdN B pr pb g gs) (hR : RdI w B pr pb g cg gs M q A cA es d (fun _ => 0)) :
    Calls Try.prog 162 #[.pointer (some ⟨pr, 0, none⟩)] w fun e w' => e = .returned (.tuple #[]) ∧ ∃ f, Ph1 M es d q f ∧ hasDebt (chipsOf M (Dv d es f)) (q : Int) = false ∧ RdI w' B pr pb g cg gs M q A cA es d f ∧ Below B w w' := by
  obtain ⟨σ, hw⟩ := wt_exists hM hn hq hes hc
  have HN := Lib.hid hn
  have HW := Lib.hid hw
  have HES := Lib.hid hes
  have HDB := Lib.hid hdb
  have HCU := Lib.hid hc
  have HE := Lib.hid hE
  have HNN := Lib.hid hN
  have HR := Lib.hid hR
  have HP := Lib.hid (Ph1.start (M := M) (es := es) (d := d) (q := q) hdb)
  have hBz := hBw
  have hq0 : (0 : Int) ≤ (q : Int) := Int.natCast_nonneg _
  clear hw hes hdb hc hE hN hR
  go_enter Try.func162, Try.ntmps162
  go_wp2
  go_loopg [2, 3, 4] 81435600 (fun gk _ _ _ wr => ∃ (f : Nat → Int), Hid ((gk : Int) = 81435600 + sumV f M) ∧ Hid (Ph1 M es d q f) ∧ Hid (RdI wr B pr pb g cg gs M q A cA es d f) ∧ Hid (Below B w wr) ∧ Hid (B ≤ wr.heap.size))
  case atStart => exact ⟨fun _ => 0, Lib.hid (by rw [sumV_const]; simp), HP, HR, Lib.hid (Below.refl _ _), Lib.hid hBz⟩
  case round =>
    clear HP HR
    obtain ⟨f, HG, HP, HR, HBL, HSZ⟩ := hrel
    have HF := Lib.hid (HP.out.wide HW.out hM HES.out HDB.out)
    have HX := fun (w' : World) (hb : Below wr.heap.size wr w') => Lib.hid (show Calls Try.prog 137 #[.slice (some ⟨g, 0, none⟩) M cg, .int .i64 (q : Int)] w' (fun e w'' => e = .returned (.int .i64 (debtor (chipsOf M (Dv d es f)) (q : Int))) ∧ w'' = w') from by
      have h := debtorBeside_any (some ⟨g, 0, none⟩) cg w'.heap.size (chipsOf M (Dv d es f)) (q : Int) w' (by rw [chipsOf_len]; omega) (HR.out.chips.below hb).ints
      rw [chipsOf_len] at h
      exact h)
    have r0 : wr.cell? ⟨pr, 0, none⟩ = some (.pointer (some ⟨pb, 0, none⟩)) := by rw [HR.out.red.cell]; rfl
    have r1 : wr.cell? ⟨pr, 1, none⟩ = some (.int .i64 (q : Int)) := by rw [HR.out.red.cell]; rfl
    have r2 : wr.cell? ⟨pb, 1, none⟩ = some (.slice (some ⟨g, 0, none⟩) M cg) := by rw [HR.out.brd.cell]; rfl
    rcases debtor_cases (chipsOf M (Dv d es f)) (q : Int) with ⟨h1, h2, _⟩ | ⟨v, hv, h1, h2, h3, _⟩
    · rw [h1] at HX
      have HH := Lib.hid h2
      clear h1 h2
      go_wp2_with fail
      go_quiet (first | (go_at_call 137; exact Calls.quiet_of_same (HX _ (below_drewN (Below.refl _ _) _)).out))
      go_wp2
      refine bodyPost_ret (results_none rfl _ _ _) rfl ?_
      exact ⟨rfl, f, HP.out, HH.out, HR.out.below (below_drewN (Below.refl _ _) _), below_drewN HBL.out _⟩
    · rw [chipsOf_len] at hv
      rw [h1] at HX
      rw [debt_Dv HN.out HDB.out HES.out HF.out hv] at h3
      simp only [Bool.and_eq_true, Bool.not_eq_true', decide_eq_true_eq, decide_eq_false_iff_not] at h3
      obtain ⟨h4, hx⟩ := h3
      have hvq : v ≠ q := by omega
      have hxb := Dv_bound (M := M) (f := f) (d := d) HN.out (fun u => by have := HDB.out u; omega) HES.out HF.out v
      have hVs := nets_self v es (fun e he => (HES.out e he).2.1)
      have hVp := val_pos HCU.out HES.out hv hq hvq
      have hxc := (HR.out.chips.cell v _ (chipsOf_at _ hv)).1
      rw [wrap64_of (by omega) (by omega)] at hxc
      have hk := borrow_k (x := Dv d es f v) (V := -nets (v : Int) v es) hx hxb.1 (by omega) (by have := HN.out; omega)
      have HP2 := Lib.hid (HP.out.step HES.out (v := v) (k := (-Dv d es f v + -nets (v : Int) v es - 1).tdiv (-nets (v : Int) v es)) hvq (by omega) hk.2.2)
      have VAL := fun (w' : World) (hb : Below wr.heap.size wr w') => Lib.hid (valence_any pb cA v B A (.slice (some ⟨g, 0, none⟩) M cg) es w' (Nat.le_trans HSZ.out hb.size) HN.out (fun e he => (HES.out e he).2.1) (HR.out.brd.below hb HR.out.brd.lt) (HE.out.keep (fun p hp => (HBL.out.trans (hb.mono HSZ.out)).cell (by omega)) (Nat.le_refl _)))
      have FIR := fun (t : Int) (w' : World) (hb : Below wr.heap.size wr w') => Lib.hid (fireR_any B pr pb g cg gs M q v A cA es d f t w' (Nat.le_trans HSZ.out hb.size) hv HN.out HES.out (HE.out.keep (fun p hp => (HBL.out.trans (hb.mono HSZ.out)).cell (by omega)) (Nat.le_refl _)) HNN.out (HR.out.below hb))
      obtain ⟨x, hxx⟩ : ∃ x, x = Dv d es f v := ⟨_, rfl⟩
      obtain ⟨V, hVV⟩ : ∃ V, V = -nets (v : Int) v es := ⟨_, rfl⟩
      rw [← hVV] at VAL hk HP2
      rw [← hxx] at hx hxb hxc hk HP2
      have hV1 : 1 ≤ V := by omega
      have hV2 : V ≤ 12 := by have := HN.out; omega
      have HS2 := Lib.hid (show sumV (addAt f v (-(-x + V - 1).tdiv V)) M = sumV f M + -(-x + V - 1).tdiv V from by rw [sumV_addAt, if_pos hv])
      obtain ⟨hk1, hk2, _⟩ := hk
      have hv0 : (0 : Int) ≤ (v : Int) := Int.natCast_nonneg _
      have hv1 : (v : Int) < (M : Int) := by omega
      have hV3 : V ≠ 0 := by omega
      have hV4 : (V == 0) = false := by simp; omega
      clear h1 h2 h4 hvq hVs hVp hxx hVV
      go_wp2_with fail
      go_quiet (first | (go_at_call 137; exact Calls.quiet_of_same (HX _ (below_drewN (Below.refl _ _) _)).out))
      go_wp2_with fail
      refine (VAL _ (below_drewN (Below.refl _ _) _)).out.mono ?_
      rintro e w2 ⟨rfl, hb2⟩
      have hb3 : Below wr.heap.size wr w2 := (below_drewN (Below.refl _ _) nq).trans hb2
      have s0 : w2.cell? ⟨pr, 0, none⟩ = some (.pointer (some ⟨pb, 0, none⟩)) := by rw [(HR.out.red.below hb3 HR.out.red.lt).cell]; rfl
      have s2 : w2.cell? ⟨pb, 1, none⟩ = some (.slice (some ⟨g, 0, none⟩) M cg) := by rw [(HR.out.brd.below hb3 HR.out.brd.lt).cell]; rfl
      have s3 : w2.cell? ⟨g, v, none⟩ = some (.int .i64 x) := (hb3.cell (p := ⟨g, v, none⟩) HR.out.chips.lt).trans hxc
      have HB3 := Lib.hid hb3
      have hx0 : 0 ≤ -x := by omega
      have hx1 : -x ≤ 1000000000000 := by omega
      clear hb2 hb3 VAL HX r0 r1 r2 hxc
      go_wp2_with fail
      refine (FIR _ w2 HB3.out).out.mono ?_
      rintro e w4 ⟨rfl, hr4, hb4, _⟩
      have HR4 := Lib.hid hr4
      have HB4 := Lib.hid ((HBL.out.trans (HB3.out.mono HSZ.out)).trans hb4)
      have HZ4 := Lib.hid (Nat.le_trans (Nat.le_trans HSZ.out HB3.out.size) hb4.size)
      have HL4 := Lib.hid (HP2.out.sum HW.out hM HES.out HDB.out)
      clear hr4 hb4 s0 s2 s3 FIR
      go_wp2
      go_roundg (81435600 + sumV (addAt f v (-(-x + V - 1).tdiv V)) M).toNat
      case measure =>
        have a1 := HG.out
        have a2 := HS2.out
        have a3 := HL4.out
        omega
      case rel => exact ⟨_, Lib.hid (by have := HL4.out; omega), HP2, HR4, HB4, HZ4⟩
end Go.Proofs.Ytdpojcgeblbfeaa

/- The program's firings. -/
namespace Go.Proofs.Ytdpojcgeblbfeaa
open Go.RowKit

def Allow (c h : Nat → Int) (l : List Int) (T : Int) : Prop := 1 ≤ T ∧ T ≤ 9223372036854775807 ∧ ∀ v : Nat, (v : Int) ∈ l → 0 < h v → T ≤ (c v).tdiv (h v)
theorem Allow.start (c h : Nat → Int) : Allow c h [] 9223372036854775807 := ⟨by omega, by omega, fun v hv => by simp at hv⟩
theorem Allow.skip {c h : Nat → Int} {l : List Int} {T : Int} {v : Nat} (a : Allow c h l T) (hv : ¬ 0 < h v) : Allow c h (l ++ [(v : Int)]) T := ⟨a.1, a.2.1, fun u hu hp => by
  rw [List.mem_append, List.mem_singleton] at hu
  rcases hu with hu | hu
  · exact a.2.2 u hu hp
  · rw [show u = v by omega] at hp
    exact absurd hp hv⟩
theorem quo_pos {x y : Int} (hy : 0 < y) (h : y ≤ x) : 1 ≤ x.tdiv y ∧ x.tdiv y ≤ x ∧ x.tdiv y * y ≤ x := by
  rw [Int.tdiv_eq_ediv_of_nonneg (by omega)]
  have h1 := Int.ediv_mul_le x (show y ≠ 0 by omega)
  have h2 : 1 ≤ x / y := by
    rw [Int.le_ediv_iff_mul_le hy]
    omega
  have h3 : x / y ≤ x := Int.ediv_le_self _ (by omega)
  exact ⟨h2, h3, h1⟩
theorem Allow.take {c h : Nat → Int} {l : List Int} {T : Int} {v : Nat} (a : Allow c h l T) (hv : 0 < h v) (hc : h v ≤ c v) : Allow c h (l ++ [(v : Int)]) (min T ((c v).tdiv (h v))) := by
  have hq := quo_pos hv hc
  refine ⟨by have := a.1; omega, by have := a.2.1; omega, fun u hu hp => ?_⟩
  rw [List.mem_append, List.mem_singleton] at hu
  rcases hu with hu | hu
  · have := a.2.2 u hu hp
    omega
  · rw [show u = v by omega]
    omega
theorem take_snocK {l : List Int} {k : Nat} {x : Int} (h : l[k]? = some x) : l.take (k + 1) = l.take k ++ [x] := by rw [List.take_add_one, h]; rfl
set_option maxRecDepth 100000 in
set_option maxHeartbeats 4000000 in
theorem firings_any (B base pf gh ch pb M g cg : Nat) (E : Value) (S : Option Addr) (cs BS : Nat) (f h : Nat → Int) (ord l : List Int) (w : World) (hM : M ≤ 6) (hl : l.length ≤ 6) (hlb : ∀ x ∈ l, 0 ≤ x ∧ x < (M : Int))
    (hf : ∀ u, u < M → -1000000000000 ≤ f u ∧ f u ≤ 1000000000000) (hh : ∀ u, 0 ≤ h u ∧ h u ≤ 24) (hc : ∀ v : Nat, (v : Int) ∈ l → h v ≤ f v)
    (hB : Blk w pb 112 #[E, .slice (some ⟨g, 0, none⟩) M cg]) (hC : Chips w g (chipsOf M f)) (hS : IntS w BS S l) (hBS : BS ≤ w.heap.size) (hZ : Blaze w B base pf gh ch pb M ord h) :
    Calls Try.prog 197 #[.pointer (some ⟨pf, 0, none⟩), .slice S l.length cs] w fun e w' => (∃ T, e = .returned (.int .i64 T) ∧ Allow f h l T) ∧ Below w.heap.size w w' := by
  obtain ⟨O, co, hbx, hown⟩ := hZ.box
  have HBX := Lib.hid hbx
  have HB := Lib.hid hB
  have HC := Lib.hid hC
  have HS := Lib.hid hS
  have HH := Lib.hid hZ.heat
  have HF := Lib.hid hf
  have HHB := Lib.hid hh
  have HLB := Lib.hid hlb
  have HCC := Lib.hid hc
  clear hbx hB hC hS hZ hf hh hlb hc hown
  go_enter Try.func197, Try.ntmps197
  go_wp2
  go_loopw [5, 7, 10] (fun t _ i wr => ∃ (k : Nat) (T : Int), k ≤ l.length ∧ i = .int .i64 k ∧ t = .int .i64 T ∧ Allow f h (l.take k) T ∧ Below w.heap.size w wr) (fun _ _ i _ => l.length - (intOf i).toNat)
  case atStart => exact ⟨0, _, Nat.zero_le _, rfl, rfl, Allow.start f h, Below.refl _ _⟩
  case round =>
    obtain ⟨k, T, hk, rfl, rfl, hal, hb⟩ := hrel
    have HAL := Lib.hid hal
    have HBW := Lib.hid hb
    clear hal hb
    by_cases hlt : k < l.length
    · obtain ⟨b1, o1, x, rfl, hb1, he, hc0⟩ := (HS.out.keep (fun p hp => HBW.out.cell (by omega)) (Nat.le_refl _)).at_ hlt
      have hi0 : (0 : Int) ≤ (k : Int) := Int.natCast_nonneg _
      have hi1 : (k : Int) < (l.length : Int) := by omega
      obtain ⟨hx0, hx1⟩ := HLB.out x (List.mem_of_getElem? he)
      obtain ⟨v, rfl⟩ : ∃ v : Nat, x = (v : Int) := ⟨x.toNat, by omega⟩
      have hvM : v < M := by omega
      have hcc := HCC.out v (List.mem_of_getElem? he)
      have HT := Lib.hid (take_snocK he)
      have hx6 : (v : Int) ≤ 6 := by omega
      have p2 : wr.cell? ⟨pf, 2, none⟩ = some (.slice (some ⟨gh, 0, none⟩) M ch) := by rw [(HBX.out.below HBW.out HBX.out.lt).cell]; rfl
      have p0 : wr.cell? ⟨pf, 0, none⟩ = some (.pointer (some ⟨pb, 0, none⟩)) := by rw [(HBX.out.below HBW.out HBX.out.lt).cell]; rfl
      have p3 : wr.cell? ⟨pb, 1, none⟩ = some (.slice (some ⟨g, 0, none⟩) M cg) := by rw [(HB.out.below HBW.out HB.out.lt).cell]; rfl
      have hhv := HHB.out v
      have hfv := HF.out v hvM
      have p4 : wr.cell? ⟨gh, v, none⟩ = some (.int .i64 (h v)) := by
        have := ((HH.out.below HBW.out).cell v _ (chipsOf_at _ hvM)).1
        rw [wrap64_of (by omega) (by omega)] at this
        exact this
      have p5 : wr.cell? ⟨g, v, none⟩ = some (.int .i64 (f v)) := by
        have := ((HC.out.below HBW.out).cell v _ (chipsOf_at _ hvM)).1
        rw [wrap64_of (by omega) (by omega)] at this
        exact this
      have hT1 := HAL.out.1
      have hT2 := HAL.out.2.1
      have HSK := Lib.hid (fun (hn : ¬ 0 < h v) => HAL.out.skip hn)
      have HTK := Lib.hid (fun (hn : 0 < h v) => HAL.out.take hn hcc)
      have HQ := Lib.hid (fun (hn : 0 < h v) => quo_pos hn hcc)
      rw [← HT.out] at HSK HTK
      obtain ⟨y, hy⟩ : ∃ y, y = h v := ⟨_, rfl⟩
      obtain ⟨z, hz⟩ : ∃ z, z = f v := ⟨_, rfl⟩
      rw [← hy] at p4 hhv HSK HTK HQ hcc
      rw [← hz] at p5 hfv HTK HQ hcc
      clear he hy hz
      by_cases hpos : 0 < y
      · have t1 : decide (0 < y) = true := decide_eq_true hpos
        have HTK2 := Lib.hid (HTK.out hpos)
        obtain ⟨hq1, hq2, _⟩ := HQ.out hpos
        have hq3 : 0 ≤ z.tdiv y := by omega
        have hq4 : z.tdiv y ≤ 1000000000000 := by omega
        have hy0 : y ≠ 0 := by omega
        have hy1 : (y == 0) = false := by simp; omega
        clear HSK HTK HQ
        go_wp2_with fail
        go_region
        go_wp2
        exact ⟨⟨k + 1, _, by omega, by go_num, rfl, HTK2.out, HBW.out.drew⟩, by simp [intOf]; omega⟩
      · have t1 : decide (0 < y) = false := decide_eq_false hpos
        have HSK2 := Lib.hid (HSK.out hpos)
        clear HSK HTK HQ hpos
        go_wp2
        exact ⟨⟨k + 1, T, by omega, by go_num, rfl, HSK2.out, HBW.out⟩, by simp [intOf]; omega⟩
    · have hal := HAL.out
      rw [List.take_of_length_le (by omega)] at hal
      have HA2 := Lib.hid hal
      clear hal
      go_wp2
      go_ret
      exact ⟨⟨T, rfl, HA2.out⟩, HBW.out⟩
end Go.Proofs.Ytdpojcgeblbfeaa

/- The program's fireSpared and reduce. -/
namespace Go.Proofs.Ytdpojcgeblbfeaa
open Go.RowKit

theorem inL_up (M : Nat) (bs : List Int) (f : Nat → Int) (t : Int) : addSet f (inL (sparedL M bs)) t = addSet f (upU bs M) t := by
  funext u
  unfold addSet
  have : inL (sparedL M bs) (u : Int) = upU bs M (u : Int) := by
    rw [Bool.eq_iff_iff]
    simp only [inL, upU, decide_eq_true_eq, sparedL_mem, Bool.and_eq_true, Bool.not_eq_true', decide_eq_false_iff_not]
    constructor
    · rintro ⟨_, h2, h3⟩
      exact ⟨h3, h2⟩
    · rintro ⟨h1, h2⟩
      exact ⟨by omega, h2, h1⟩
  rw [this]
theorem inL_take {l : List Int} {k v : Nat} (f : Nat → Int) (t : Int) (h : l[k]? = some (v : Int)) (hn : l.Nodup) : addAt (addSet f (inL (l.take k)) t) v t = addSet f (inL (l.take (k + 1))) t := by
  have hnm : ¬ (v : Int) ∈ l.take k := fun hm => by
    have h3 : (l.take (k + 1)).Nodup := hn.sublist (List.take_sublist _ _)
    rw [take_snocK h, List.nodup_append] at h3
    exact absurd rfl (h3.2.2 _ hm _ (by simp))
  funext u
  rw [take_snocK h]
  unfold addAt addSet
  by_cases e : u = v
  · subst e
    simp [inL, hnm]
  · have : ¬ (u : Int) = (v : Int) := by omega
    simp [inL, e, this]
theorem inL_zero (f : Nat → Int) (t : Int) : addSet f (inL []) t = f := by
  funext u
  simp [addSet, inL]
theorem OwnI.keep_ {w w' : World} {base : Nat} {A : Option Addr} {zs : List Int} (h : OwnI w base A zs) (hs : w.heap.size ≤ w'.heap.size) (hk : ∀ i, i < w.heap.size → base ≤ i → w'.heap[i]? = w.heap[i]?) : OwnI w' base A zs := fun hn => by
  obtain ⟨k, off, e, h1, hl, hc⟩ := h hn
  have hbl := hk k hl h1
  exact ⟨k, off, e, h1, Nat.lt_of_lt_of_le hl hs, fun i z hz => ⟨(World.cell?_of_block (a := ⟨k, off + i, none⟩) hbl).trans (hc i z hz).1, (World.frozen?_of_block (a := ⟨k, off + i, none⟩) hbl).trans (hc i z hz).2⟩⟩
theorem keepRd {w W w2 : World} {p r : Addr} {a b : Value} (hS : W.cell? p = some a ∧ W.cell? r = some b ∧ Below w.heap.size w W) (hb : Below W.heap.size W w2) (hp : p.block < w.heap.size) (hr : r.block < w.heap.size) : w2.cell? p = some a ∧ w2.cell? r = some b ∧ Below w.heap.size w w2 := by
  obtain ⟨h1, h2, h5⟩ := hS
  have hz := h5.size
  exact ⟨(hb.cell (by omega)).trans h1, (hb.cell (by omega)).trans h2, h5.trans (hb.mono hz)⟩
section
variable {M : Nat} {es : List (Int × Int)} {d : List Int} {q : Nat} {f : Nat → Int} {σ : Nat → Int}
theorem spared_hot {bs : List Int} (hc : Cut M es) (hes : ∀ e ∈ es, 0 ≤ e.1 ∧ e.1 < e.2 ∧ e.2 < (M : Int)) (hb : Burns M (q : Int) bs) (hne : sparedL M bs ≠ []) : ∃ v : Nat, v < M ∧ (v : Int) ∈ sparedL M bs ∧ 0 < heat (inL bs) v es := by
  apply Classical.byContradiction
  intro hno
  have hall := hc.all hes hb fun v hv hnb => by
    apply Classical.byContradiction
    intro hp
    exact hno ⟨v, hv, sparedL_mem.2 ⟨by omega, by omega, hnb⟩, by omega⟩
  obtain ⟨x, hx⟩ := List.exists_mem_of_ne_nil _ hne
  obtain ⟨h1, h2, h3⟩ := sparedL_mem.1 hx
  have := hall x.toNat (by omega)
  rw [show ((x.toNat : Nat) : Int) = x by omega] at this
  exact h3 this
theorem spared_nil {bs : List Int} (hb : Burns M (q : Int) bs) (h : sparedL M bs = []) : bs.length = M :=
  hb.full_iff.2 fun v hv => by
    apply Classical.byContradiction
    intro hn
    have := sparedL_mem.2 ⟨Int.natCast_nonneg v, show (v : Int) < (M : Int) by omega, hn⟩
    rw [h] at this
    cases this
end
set_option maxRecDepth 100000 in
set_option maxHeartbeats 8000000 in
theorem fireSpared_any (B pr pb g cg gs M q : Nat) (A : Option Addr) (cA : Nat) (es : List (Int × Int)) (d : List Int) (f0 : Nat → Int) (σ : Nat → Int) (w : World) (hM0 : 0 < M) (hM : M ≤ 6) (hq : q < M) (hn : es.length ≤ 12) (hes : ∀ e ∈ es, 0 ≤ e.1 ∧ e.1 < e.2 ∧ e.2 < (M : Int)) (hdb : ∀ u, -300 ≤ d.getD u 0 ∧ d.getD u 0 ≤ 300) (hc : Cut M es) (hw : Wt M es q σ)
    (hBw : B ≤ w.heap.size) (hE : EdgeS w B A es) (hN : RdN B pr pb g gs) (hP : Ph2 M es d q σ f0) (hR : RdI w B pr pb g cg gs M q A cA es d f0) :
    Calls Try.prog 163 #[.pointer (some ⟨pr, 0, none⟩)] w fun e w' => e = .returned (.tuple #[]) ∧ ∃ f, IsRed M es d q f ∧ RdI w' B pr pb g cg gs M q A cA es d f ∧ Below B w w' := by
  have HN := Lib.hid hn
  have HW := Lib.hid hw
  have HES := Lib.hid hes
  have HDB := Lib.hid hdb
  have HCU := Lib.hid hc
  have HE := Lib.hid hE
  have HNN := Lib.hid hN
  have HR := Lib.hid hR
  have HP := Lib.hid hP
  have HSM := Lib.hid (hP.sum hw hM hes)
  have hBz := hBw
  have hq0 : (0 : Int) ≤ (q : Int) := Int.natCast_nonneg _
  clear hw hes hdb hc hE hN hR hP
  go_enter Try.func163, Try.ntmps163
  go_wp2
  go_loopg [2, 3, 4, 6, 26] (40717800 - sumV f0 M).toNat (fun gk _ _ _ _ _ wr => ∃ (f : Nat → Int), Hid ((gk : Int) = 40717800 - sumV f M) ∧ Hid (Ph2 M es d q σ f) ∧ Hid (RdI wr B pr pb g cg gs M q A cA es d f) ∧ Hid (Below B w wr) ∧ Hid (B ≤ wr.heap.size))
  case atStart => exact ⟨f0, Lib.hid (by have := HSM.out; omega), HP, HR, Lib.hid (Below.refl _ _), Lib.hid hBz⟩
  case round =>
    clear HP HR HSM
    obtain ⟨f, HG, HP, HR, HBL, HSZ⟩ := hrel
    have HF := Lib.hid (HP.out.high HW.out hM HES.out)
    have BRN := fun (w' : World) (hb : Below wr.heap.size wr w') => Lib.hid (show Calls Try.prog 118 #[.pointer (some ⟨pb, 0, none⟩), .int .i64 (q : Int)] w' (fun e w'' => ∃ (base pf gh ch : Nat) (h : Nat → Int), e = .returned (.pointer (some ⟨pf, 0, none⟩)) ∧ Blaze w'' w'.heap.size base pf gh ch pb M (burntL M es (chipsOf M (Dv d es f)) (q : Int)) h ∧ HeatIs es (burntL M es (chipsOf M (Dv d es f)) (q : Int)) h ∧ Below w'.heap.size w' w'') from burn_any pb g cg cA M q A es (chipsOf M (Dv d es f)) w' hM0 hM hq (chipsOf_len _ _) HN.out HES.out (Nat.lt_of_lt_of_le HR.out.brd.lt hb.size) (HR.out.brd.below hb HR.out.brd.lt) (HR.out.chips.below hb) (HE.out.keep (fun p hp => (HBL.out.trans (hb.mono HSZ.out)).cell (by omega)) (Nat.le_trans HSZ.out hb.size)))
    have hbt := burntL_all (M := M) (es := es) (d := chipsOf M (Dv d es f)) (q := (q : Int)) (by omega)
    have HPN := fun (t : Int) (ht : 0 ≤ t) (h : ∀ v : Nat, v < M → ¬ (v : Int) ∈ burntL M es (chipsOf M (Dv d es f)) (q : Int) → t * heat (inL (burntL M es (chipsOf M (Dv d es f)) (q : Int))) v es ≤ Dv d es f v) => Lib.hid (HP.out.next HW.out hq HES.out ht h)
    have HCN := Lib.hid (fun (v : Nat) (hv : v < M) (hnb : ¬ (v : Int) ∈ burntL M es (chipsOf M (Dv d es f)) (q : Int)) => show heat (inL (burntL M es (chipsOf M (Dv d es f)) (q : Int))) v es ≤ Dv d es f v from by
      have h1 := nextV_no hbt.2 v hv
      simp only [catchV, Bool.and_eq_false_iff, decide_eq_false_iff_not, Bool.not_eq_false'] at h1
      rw [Dv_get HN.out HDB.out HES.out HF.out hv] at h1
      rcases h1 with g | g
      · omega
      · exact absurd (by simpa [inL] using g) hnb)
    have HRD := Lib.hid (fun (hl : (burntL M es (chipsOf M (Dv d es f)) (q : Int)).length = M) => HP.out.red HW.out hM HES.out hl)
    obtain ⟨bs, hbs⟩ : ∃ x, x = burntL M es (chipsOf M (Dv d es f)) (q : Int) := ⟨_, rfl⟩
    rw [← hbs] at BRN
    rw [← hbs] at hbt HPN HCN HRD
    have HBU := Lib.hid hbt.1
    have hbl := hbt.1.len
    have hbl0 : 0 < bs.length := List.length_pos_of_mem hbt.1.first
    have HBS := Lib.hid hbs
    have r0 : wr.cell? ⟨pr, 0, none⟩ = some (.pointer (some ⟨pb, 0, none⟩)) := by rw [HR.out.red.cell]; rfl
    have r1 : wr.cell? ⟨pr, 1, none⟩ = some (.int .i64 (q : Int)) := by rw [HR.out.red.cell]; rfl
    have lr := HR.out.red.lt
    obtain ⟨gx, rfl⟩ : ∃ gx : Nat, gx = gk := ⟨_, rfl⟩
    obtain ⟨wo, rfl⟩ : ∃ wo : World, wo = wr := ⟨_, rfl⟩
    clear hbt hbs
    go_wp2_with fail
    go_region_held3 (fun w' => w'.cell? ⟨pr, 0, none⟩ = some (.pointer (some ⟨pb, 0, none⟩)) ∧ w'.cell? ⟨pr, 1, none⟩ = some (.int .i64 (q : Int)) ∧ Below wo.heap.size wo w')
      (first
        | exact ⟨r0, r1, (Below.refl _ _).drew⟩
        | assumption
        | exact keepRd (by assumption) hb6 lr lr)
      (first
        | (go_at_call 118; refine (BRN _ (Below.refl _ _).drew).out.mono ?_; rintro e w6 ⟨base, pf, gh, ch, h, rfl, hz, hh, hb6⟩))
    have hb7 : Below wo.heap.size wo w6 := ((Below.refl _ _).drew).trans hb6
    have HZ := Lib.hid hz
    have HH := Lib.hid hh
    have HR6 := Lib.hid (HR.out.below hb7)
    have HB6 := Lib.hid (HBL.out.trans (hb7.mono HSZ.out))
    have HS6 := Lib.hid (Nat.le_trans HSZ.out hb7.size)
    have SP := Lib.hid (spared_any _ base pf gh ch pb M bs h w6 hM (by omega) hbl0 hz)
    clear hb6 hb7 hz hh r0 r1 lr BRN
    go_wp2_with fail
    refine SP.out.mono ?_
    rintro e w7 ⟨S7, c7, rfl, ho7, hb7⟩
    have HZ7 := Lib.hid (HZ.out.below hb7)
    have HR7 := Lib.hid (HR6.out.below hb7)
    have HB7 := Lib.hid (HB6.out.trans (hb7.mono HS6.out))
    have HS7 := Lib.hid (Nat.le_trans HS6.out hb7.size)
    have HO7 := Lib.hid ho7
    have HK6 := Lib.hid (show g < w6.heap.size ∧ gs < w6.heap.size from ⟨HR6.out.chips.lt, HR6.out.scr.lt⟩)
    have HI7 := Lib.hid ho7.ints
    clear ho7 hb7 HZ HR6 HB6 SP
    have hsl := sparedL_len M bs
    have hnd := sparedL_nodup M bs
    obtain ⟨K6, hK6⟩ : ∃ x, x = w6.heap.size := ⟨_, rfl⟩
    rw [← hK6] at HO7 HK6
    have HME := Lib.hid (fun (x : Int) => sparedL_mem (M := M) (ord := bs) (x := x))
    have HUP := Lib.hid (fun (f : Nat → Int) (t : Int) => inL_up M bs f t)
    have HNI := Lib.hid (fun (h : sparedL M bs = []) => spared_nil HBU.out h)
    have HHO := Lib.hid (fun (h : sparedL M bs ≠ []) => spared_hot HCU.out HES.out HBU.out h)
    obtain ⟨L, hL⟩ : ∃ x, x = sparedL M bs := ⟨_, rfl⟩
    rw [← hL] at HO7 HI7 hsl hnd HME HUP HNI HHO ⊢
    have HND := Lib.hid hnd
    clear hL hK6 hnd
    by_cases h0 : L.length = 0
    · have t1 : ((L.length : Int) == 0) = true := by simp [h0]
      have HIR := Lib.hid (HRD.out (HNI.out (List.eq_nil_of_length_eq_zero h0)))
      clear h0
      go_wp2
      refine bodyPost_ret (results_none rfl _ _ _) rfl ?_
      exact ⟨rfl, f, HIR.out, HR7.out, HB7.out⟩
    · have t1 : ((L.length : Int) == 0) = false := by rw [beq_eq_false_iff_ne]; omega
      have hne : L ≠ [] := fun h => h0 (by rw [h]; rfl)
      obtain ⟨v0, hv0, hvm0, hvh0⟩ := HHO.out hne
      have hfb := fun (u : Nat) (_ : u < M) => Dv_bound (M := M) (f := f) (d := d) HN.out (fun u => by have := HDB.out u; omega) HES.out HF.out u
      have FR := Lib.hid (firings_any _ base pf gh ch pb M g cg (.slice A es.length cA) S7 c7 w7.heap.size (Dv d es f) h bs L w7 hM (by omega) (fun x hx => ⟨((HME.out x).1 hx).1, ((HME.out x).1 hx).2.1⟩) hfb (fun u => by
        have h1 := heat_lo (inL bs) u es
        have h2 := HH.out u
        have h3 := HN.out
        omega) (fun v hv => by
        rw [HH.out v]
        have h1 := (HME.out _).1 hv
        exact HCN.out v (by omega) h1.2.2) HR7.out.brd HR7.out.chips HI7.out (Nat.le_refl _) HZ7.out)
      clear h0 hne hfb
      go_wp2_with fail
      refine FR.out.mono ?_
      rintro e w8 ⟨⟨T, rfl, hal⟩, hb8⟩
      have hT1 := hal.1
      have hT2 : T ≤ 1000000000000 := by
        have h1 := hal.2.2 v0 hvm0 (by rw [HH.out v0]; exact hvh0)
        have h2 := (quo_pos (x := Dv d es f v0) (y := h v0) (by rw [HH.out v0]; exact hvh0) (by rw [HH.out v0]; exact HCN.out v0 hv0 ((HME.out _).1 hvm0).2.2)).2.1
        have h3 := (Dv_bound (M := M) (f := f) (d := d) HN.out (fun u => by have := HDB.out u; omega) HES.out HF.out v0).2
        omega
      have HPX := HPN T (by omega) (fun v hv hnb => by
        have h1 := (heat_lo (inL bs) v es).1
        by_cases hz : heat (inL bs) v es = 0
        · rw [hz]
          have := HP.out.pos v hv (fun e => hnb (by rw [e]; exact HBU.out.first))
          omega
        · have h2 := hal.2.2 v ((HME.out _).2 ⟨by omega, by omega, hnb⟩) (by rw [HH.out v]; omega)
          have h3 := (quo_pos (x := Dv d es f v) (y := h v) (by rw [HH.out v]; omega) (by rw [HH.out v]; exact HCN.out v hv hnb)).2.2
          rw [HH.out v] at h2 h3
          have h4 := Int.mul_le_mul_of_nonneg_right h2 h1
          omega)
      have HSX := Lib.hid (addSet_sum (M := M) (f := f) (U := upU bs M) (t := T) (by omega) ⟨v0, hv0, by
        have h1 := ((HME.out _).1 hvm0).2.2
        simp [upU, inL, h1, hv0]⟩)
      have HSY := Lib.hid (HPX.out.sum HW.out hM HES.out)
      have HR8 := Lib.hid (HR7.out.below hb8)
      have HB8 := Lib.hid (HB7.out.trans (hb8.mono HS7.out))
      have HS8 := Lib.hid (Nat.le_trans HS7.out hb8.size)
      have HO8 := Lib.hid (HO7.out.below hb8)
      clear hal hb8 HZ7 HR7 HB7 HI7 HO7 FR hvm0 hvh0
      go_wp2
      go_loopg [6, 26] L.length (fun gj _ s26 wx => ∃ k : Nat, k ≤ L.length ∧ gj + k = L.length ∧ s26 = .int .i64 k ∧ Hid (RdI wx B pr pb g cg gs M q A cA es d (addSet f (inL (L.take k)) T)) ∧ Hid (Below B w wx) ∧ Hid (B ≤ wx.heap.size) ∧ Hid (OwnI wx K6 S7 L))
      case atStart => exact ⟨0, Nat.zero_le _, by omega, rfl, Lib.hid (by rw [List.take_zero, inL_zero]; exact HR8.out), HB8, HS8, HO8⟩
      case round =>
        obtain ⟨k, hk, hgk, rfl, HRk, HBk, HSk, HOk⟩ := hrel
        by_cases hlt : k < L.length
        · obtain ⟨b1, o1, x, hS7, hb1, he, hc0⟩ := HOk.out.ints.at_ hlt
          subst hS7
          have hi0 : (0 : Int) ≤ (k : Int) := Int.natCast_nonneg _
          have hi1 : (k : Int) < (L.length : Int) := by omega
          have hxm := (HME.out x).1 (List.mem_of_getElem? he)
          obtain ⟨v, rfl⟩ : ∃ v : Nat, x = (v : Int) := ⟨x.toNat, by omega⟩
          have hvM : v < M := by omega
          have HTK := Lib.hid (inL_take f T he HND.out)
          have FIR := Lib.hid (fireR_any B pr pb g cg gs M q v A cA es d (addSet f (inL (L.take k)) T) T wr HSk.out hvM HN.out HES.out (HE.out.keep (fun p hp => HBk.out.cell (by omega)) (Nat.le_refl _)) HNN.out HRk.out)
          clear he hxm
          go_wp2_with fail
          refine FIR.out.mono ?_
          rintro e w9 ⟨rfl, hr9, hb9, hk9⟩
          rw [HTK.out] at hr9
          have HR9 := Lib.hid hr9
          have HB9 := Lib.hid (HBk.out.trans hb9)
          have HS9 := Lib.hid (Nat.le_trans HSk.out hb9.size)
          have HO9 := Lib.hid (HOk.out.keep_ hb9.size (fun i hi hbi => hk9 i hi (by have := HK6.out; omega) (by have := HK6.out; omega)))
          clear hr9 hb9 hk9 hc0 FIR
          go_wp2
          go_roundg (gk - 1)
          case measure => omega
          case rel => exact ⟨k + 1, by omega, by omega, by go_num, HR9, HB9, HS9, HO9⟩
        · have hr9 := HRk.out
          rw [List.take_of_length_le (by omega), HUP.out] at hr9
          have HR9 := Lib.hid hr9
          clear hr9
          go_wp2
          go_roundg (40717800 - sumV (addSet f (upU bs M) T) M).toNat
          case measure =>
            have a1 := HG.out
            have a2 := HSX.out
            have a3 := HSY.out
            omega
          case rel => exact ⟨_, Lib.hid (by have := HSY.out; omega), HPX, HR9, HBk, HSk⟩
end Go.Proofs.Ytdpojcgeblbfeaa

/- The program's reduce. -/
namespace Go.Proofs.Ytdpojcgeblbfeaa
open Go.RowKit

def GivesRdn (w : World) (M : Nat) (A : Option Addr) (c : Nat) (es : List (Int × Int)) (d : List Int) (q : Nat) (e : Ending) (w' : World) : Prop :=
  ∃ (pr pb g cg gs : Nat) (f : Nat → Int), e = .returned (.pointer (some ⟨pr, 0, none⟩)) ∧ IsRed M es d q f ∧ RdI w' w.heap.size pr pb g cg gs M q A c es d f ∧ RdN w.heap.size pr pb g gs ∧ Below w.heap.size w w'
set_option maxRecDepth 100000 in
set_option maxHeartbeats 8000000 in
theorem reduceW_any (A D : Option Addr) (c cd M q : Nat) (es : List (Int × Int)) (d : List Int) (w : World) (hM0 : 0 < M) (hM : M ≤ 6) (hq : q < M) (hd : d.length = M) (hn : es.length ≤ 12) (hes : ∀ e ∈ es, 0 ≤ e.1 ∧ e.1 < e.2 ∧ e.2 < (M : Int)) (hdb : ∀ u, -300 ≤ d.getD u 0 ∧ d.getD u 0 ≤ 300) (hc : Cut M es)
    (hE : EdgeS w w.heap.size A es) (hS : IntS w w.heap.size D d) :
    Calls Try.prog 108 #[.agg #[.int .i64 (M : Int), .slice A es.length c], .slice D d.length cd, .int .i64 (q : Int)] w (GivesRdn w M A c es d q) := by
  obtain ⟨σ, hw⟩ := wt_exists hM hn hq hes hc
  have hmk := make_ints M (by omega)
  have hdw : ∀ x ∈ d, -9223372036854775808 ≤ x ∧ x ≤ 9223372036854775807 := fun x hx => by
    obtain ⟨i, hi⟩ := List.getElem?_of_mem hx
    have := hdb i
    simp [List.getD, hi] at this
    omega
  have HST := Lib.hid (show d = chipsOf M (Dv d es fun _ => 0) from by
    have h1 := chips_start hd hdw
    rw [← h1]
    exact chipsOf_eq fun u _ => by rw [h1, Dv, termsF_zero (fun _ => rfl)]; omega)
  have BO := fun (w' : World) (hb : Below w.heap.size w w') => Lib.hid (show Calls Try.prog 117 #[.agg #[.int .i64 (M : Int), .slice A es.length c], .slice D M cd] w' (fun e w'' => ∃ p g cg : Nat, e = .returned (.pointer (some ⟨p, 0, none⟩)) ∧ Blk w'' p 112 #[.slice A es.length c, .slice (some ⟨g, 0, none⟩) M cg] ∧ Chips w'' g d ∧ w'.heap.size ≤ g ∧ g < p ∧ Below w'.heap.size w' w'') from by
    have h := boardOf_any (M : Int) A D es.length c cd d w' (by omega) (by omega) (hS.up_ hb)
    unfold GivesBoard at h
    rw [hd] at h
    exact h)
  have PD := fun (pr pb g cg gs : Nat) (w' : World) (hb : Below w.heap.size w w') (hN : RdN w.heap.size pr pb g gs) (hR : RdI w' w.heap.size pr pb g cg gs M q A c es d (fun _ => 0)) => Lib.hid (payDebts_any w.heap.size pr pb g cg gs M q A c es d w' hM hq hn hes hdb hc hb.size (hE.keep (fun p hp => hb.cell hp) (Nat.le_refl _)) hN hR)
  have FS := fun (pr pb g cg gs : Nat) (f : Nat → Int) (w' : World) (hb : Below w.heap.size w w') (hN : RdN w.heap.size pr pb g gs) (hP : Ph1 M es d q f) (hH : hasDebt (chipsOf M (Dv d es f)) (q : Int) = false) (hR : RdI w' w.heap.size pr pb g cg gs M q A c es d f) => Lib.hid (fireSpared_any w.heap.size pr pb g cg gs M q A c es d f σ w' hM0 hM hq hn hes hdb hc hw hb.size (hE.keep (fun p hp => hb.cell hp) (Nat.le_refl _)) hN (hP.end_ hw hM hes hdb (noDebt hn hdb hes (hP.wide hw hM hes hdb) hH)) hR)
  have hM1 : (0 : Int) ≤ (M : Int) := Int.natCast_nonneg _
  rw [hd]
  clear hw hes hdb hc hE hS hd hdw
  go_enter Try.func108, Try.ntmps108
  go_wp2_with fail
  obtain ⟨W0, hW0⟩ : ∃ X : World, X = w.alloc (Obj.cells #[.int .i64 (M : Int), .slice A es.length c] 25) := ⟨_, rfl⟩
  rw [← hW0]
  have hb0 : Below w.heap.size w W0 := by rw [hW0]; exact (Below.refl _ _).alloc (Nat.le_refl _) _
  have hx0 : Blk W0 w.heap.size 25 #[.int .i64 (M : Int), .slice A es.length c] := by rw [hW0]; exact Blk.new w _ _
  have c0 : W0.cell? ⟨w.heap.size, 0, none⟩ = some (.int .i64 (M : Int)) := by rw [hx0.cell]; rfl
  have c1 : W0.cell? ⟨w.heap.size, 1, none⟩ = some (.slice A es.length c) := by rw [hx0.cell]; rfl
  have l0 : w.heap.size < W0.heap.size := hx0.lt
  clear hW0 hx0
  go_region_held3 (fun w' => w'.cell? ⟨w.heap.size, 0, none⟩ = some (.int .i64 (M : Int)) ∧ w'.cell? ⟨w.heap.size, 1, none⟩ = some (.slice A es.length c) ∧ Below W0.heap.size W0 w')
    (first
      | exact ⟨c0, c1, (Below.refl _ _).drew⟩
      | assumption
      | exact keepRd (by assumption) hb2 l0 l0
      | exact keepRd (by assumption) ((Below.refl _ _).alloc (Nat.le_refl _) _) l0 l0)
    (first
      | (go_at_call 117; refine (BO _ (by first | exact hb0.drew | exact (hb0.drew.alloc (by simpa using hb0.size) _) | exact (hb0.alloc hb0.size _).drew)).out.mono ?_; rintro e w2 ⟨p, g, cg, rfl, hbrd, hch, hg, hgp, hb2⟩))
  · obtain ⟨W3, hW3⟩ : ∃ X : World, X = (w2.alloc (Obj.cells (intCells (List.replicate M 0)).toArray 3)).alloc (Obj.cells #[.pointer (some ⟨p, 0, none⟩), .int .i64 (q : Int), .slice (some ⟨w2.heap.size, 0, none⟩) M M] 115) := ⟨_, rfl⟩
    rw [← hW3]
    have hsc := Blk.new w2 3 (intCells (List.replicate M 0)).toArray
    rw [chips_zero] at hsc
    have hrd := Blk.new (w2.alloc (Obj.cells (intCells (List.replicate M 0)).toArray 3)) 115 #[.pointer (some ⟨p, 0, none⟩), .int .i64 (q : Int), .slice (some ⟨w2.heap.size, 0, none⟩) M M]
    rw [World.size_alloc, ← hW3] at hrd
    have hba : Below w2.heap.size w2 W3 := by rw [hW3]; exact ((Below.refl _ _).alloc (Nat.le_refl _) _).alloc (by simp) _
    have hch0 := hch
    rw [HST.out] at hch0
    have hp2 := hbrd.lt
    have hW : W0.heap.size ≤ g := hg
    have hR3 : RdI W3 w.heap.size (w2.heap.size + 1) p g cg w2.heap.size M q A c es d (fun _ => 0) := ⟨hrd, hbrd.below hba hp2, hch0.below hba, by
      rw [hW3, chips_zero]
      exact (Chips.of_blk hsc).below ((Below.refl _ _).alloc (Nat.le_refl _) _)⟩
    have hN3 : RdN w.heap.size (w2.heap.size + 1) p g w2.heap.size := ⟨by omega, by omega, by omega, by omega, by omega, by omega, by omega, by omega, by omega⟩
    have hb3 : Below w.heap.size w W3 := (hb0.drew.trans (hb2.mono hb0.size)).trans (hba.mono (by omega))
    clear hsc hrd hba hch0 hp2 hW
    have HR3 := Lib.hid hR3
    have HN3 := Lib.hid hN3
    have HB3 := Lib.hid hb3
    clear hW3 hR3 hN3 hb3 hbrd hch hg hgp hb2 c0 c1
    go_wp2_with fail
    refine (PD _ _ _ _ _ _ HB3.out HN3.out HR3.out).out.mono ?_
    rintro e w4 ⟨rfl, f, hp4, hh4, hr4, hb4⟩
    have HB4 := Lib.hid (HB3.out.trans hb4)
    have FSX := Lib.hid (FS _ _ _ _ _ f w4 HB4.out HN3.out hp4 hh4 hr4)
    clear hp4 hh4 hr4 hb4
    go_wp2_with fail
    refine FSX.out.out.mono ?_
    rintro e w5 ⟨rfl, f5, hi5, hr5, hb5⟩
    have HI5 := Lib.hid hi5
    have HR5 := Lib.hid hr5
    have HB5 := Lib.hid (HB4.out.trans hb5)
    clear hi5 hr5 hb5
    go_wp2
    go_ret
    exact ⟨_, _, _, _, _, f5, rfl, HI5.out, HR5.out, HN3.out, HB5.out⟩
  · obtain ⟨W3, hW3⟩ : ∃ X : World, X = w2.alloc (Obj.cells #[.pointer (some ⟨p, 0, none⟩), .int .i64 (q : Int), .slice (some ⟨W0.heap.size, 0, none⟩) M M] 115) := ⟨_, rfl⟩
    rw [← hW3]
    have hsc := Blk.new W0 3 (intCells (List.replicate M 0)).toArray
    rw [chips_zero] at hsc
    have hgs : Chips w2 W0.heap.size (chipsOf M fun _ => 0) := by
      have h1 := (Chips.of_blk hsc).below ((Below.refl _ _).drew)
      rw [chips_zero] at hb2
      exact h1.below hb2
    have hrd := Blk.new w2 115 #[.pointer (some ⟨p, 0, none⟩), .int .i64 (q : Int), .slice (some ⟨W0.heap.size, 0, none⟩) M M]
    rw [← hW3] at hrd
    have hba : Below w2.heap.size w2 W3 := by rw [hW3]; exact (Below.refl _ _).alloc (Nat.le_refl _) _
    have hch0 := hch
    rw [HST.out] at hch0
    have hp2 := hbrd.lt
    have hW : W0.heap.size + 1 ≤ g := by have := hg; simpa using this
    have hR3 : RdI W3 w.heap.size w2.heap.size p g cg W0.heap.size M q A c es d (fun _ => 0) := ⟨hrd, hbrd.below hba hp2, hch0.below hba, hgs.below hba⟩
    have hN3 : RdN w.heap.size w2.heap.size p g W0.heap.size := ⟨by omega, by omega, by omega, by omega, by omega, by omega, by omega, by omega, by omega⟩
    have hb3 : Below w.heap.size w W3 := ((hb0.alloc hb0.size _).drew.trans (hb2.mono (by simp; omega))).trans (hba.mono (by omega))
    clear hsc hrd hba hch0 hp2 hW hgs
    have HR3 := Lib.hid hR3
    have HN3 := Lib.hid hN3
    have HB3 := Lib.hid hb3
    clear hW3 hR3 hN3 hb3 hbrd hch hg hgp hb2 c0 c1
    go_wp2_with fail
    refine (PD _ _ _ _ _ _ HB3.out HN3.out HR3.out).out.mono ?_
    rintro e w4 ⟨rfl, f, hp4, hh4, hr4, hb4⟩
    have HB4 := Lib.hid (HB3.out.trans hb4)
    have FSX := Lib.hid (FS _ _ _ _ _ f w4 HB4.out HN3.out hp4 hh4 hr4)
    clear hp4 hh4 hr4 hb4
    go_wp2_with fail
    refine FSX.out.out.mono ?_
    rintro e w5 ⟨rfl, f5, hi5, hr5, hb5⟩
    have HI5 := Lib.hid hi5
    have HR5 := Lib.hid hr5
    have HB5 := Lib.hid (HB4.out.trans hb5)
    clear hi5 hr5 hb5
    go_wp2
    go_ret
    exact ⟨_, _, _, _, _, f5, rfl, HI5.out, HR5.out, HN3.out, HB5.out⟩
end Go.Proofs.Ytdpojcgeblbfeaa
