/- One text out of several: Conn RdQ FireS RdS RdI RdJ RdK RdL RdR RedO Deg. -/
import Derived.Test.YtndncmjhpbjcoaaGBG
import Derived.Test.YtndncmjhpbjcoaaGBB
import Derived.Test.YtndncmjhpbjcoaaGBI
import Derived.Deep.CutRange
import Derived.Deep.LoopGhost
import Derived.Test.YtndncmjhpbjcoaaGBA
set_option linter.all false
/- A connected graph is cut by every set of vertices. -/
namespace Go.Proofs.Ytndncmjhpbjcoaa
open Go.RowKit

theorem near_cut {es : List (Int × Int)} {p : Int → Bool} {v : Int} {k : Nat} {u : Int} (h : Near es v k u) (hne : p v ≠ p u) : ∃ e ∈ es, p e.1 ≠ p e.2 := by
  induction h with
  | start => exact absurd rfl hne
  | stay _ ih => exact ih hne
  | @step k a b _ ht ih =>
    by_cases hab : p v = p a
    · rcases ht with g | g
      · exact ⟨(a, b), g, by rw [← hab]; exact hne⟩
      · exact ⟨(b, a), g, by simp only; rw [← hab]; exact Ne.symm hne⟩
    · exact ih hab
theorem Conn.cut {M : Nat} {es : List (Int × Int)} (h : Conn (M : Int) es) : Cut M es := by
  rintro p ⟨x, hx0, hx1, hpx⟩ ⟨y, hy0, hy1, hpy⟩
  obtain ⟨k1, n1⟩ := h x hx0 hx1
  obtain ⟨k2, n2⟩ := h y hy0 hy1
  cases hp : p 0 with
  | true => exact near_cut n2 (by rw [hp, hpy]; decide)
  | false => exact near_cut n1 (by rw [hp, hpx]; decide)
end Go.Proofs.Ytndncmjhpbjcoaa

/- Reducing: what the walks ask of the plain math. -/
namespace Go.Proofs.Ytndncmjhpbjcoaa
open Go.RowKit

section
variable {M : Nat} {es : List (Int × Int)} {d : List Int} {q : Nat} {f : Nat → Int} {σ : Nat → Int}
def upU (ord : List Int) (k : Nat) (x : Int) : Bool := !inL ord x && decide (x < (k : Int))
theorem Dv_get (hn : es.length ≤ 12) (hd : ∀ u, -300 ≤ d.getD u 0 ∧ d.getD u 0 ≤ 300) (hes : ∀ e ∈ es, 0 ≤ e.1 ∧ e.1 < e.2 ∧ e.2 < (M : Int)) (hf : ∀ u, u < M → -1000000000 ≤ f u ∧ f u ≤ 1000000000) {u : Nat} (hu : u < M) : (chipsOf M (Dv d es f)).getD u 0 = Dv d es f u :=
  chips_get hu (Dv_bound hn (fun u => by have := hd u; omega) hes hf u)
theorem Ph1.one (h : Ph1 M es d q f) (hn : es.length ≤ 12) (hes : ∀ e ∈ es, 0 ≤ e.1 ∧ e.1 < e.2 ∧ e.2 < (M : Int)) {v : Nat} (hv : v ≠ q) (hlt : Dv d es f v < 0) : Ph1 M es d q (addAt f v (-1)) :=
  h.step hes hv (k := 1) (by omega) (by have := nets_self v es (fun e he => (hes e he).2.1); omega)
theorem Ph2.next (h : Ph2 M es d q σ f) (hw : Wt M es q σ) (hq : q < M) (hes : ∀ e ∈ es, 0 ≤ e.1 ∧ e.1 < e.2 ∧ e.2 < (M : Int)) {t : Int} (ht : 0 ≤ t)
    (hc : ∀ v : Nat, v < M → ¬ (v : Int) ∈ burntL M es (chipsOf M (Dv d es f)) (q : Int) → t * heat (inL (burntL M es (chipsOf M (Dv d es f)) (q : Int))) v es ≤ Dv d es f v) :
    Ph2 M es d q σ (addSet f (upU (burntL M es (chipsOf M (Dv d es f)) (q : Int)) M) t) := by
  obtain ⟨hb, hnx⟩ := burntL_all (M := M) (es := es) (d := chipsOf M (Dv d es f)) (q := (q : Int)) (by omega)
  refine h.fire hw hes ht ?_ fun v hv hU => ?_
  · simp [upU, inL, hb.first]
  · simp only [upU, Bool.and_eq_true, Bool.not_eq_true', decide_eq_true_eq] at hU
    have h1 := hc v hv (by simpa [inL] using hU.1)
    rw [heat_congr (r := inL (burntL M es (chipsOf M (Dv d es f)) (q : Int))) v es fun e he => ?_]
    · exact h1
    · obtain ⟨g1, g2, g3⟩ := hes e he
      have a1 : e.1 < (M : Int) := by omega
      simp [upU, a1, g3]
theorem Ph2.one (h : Ph2 M es d q σ f) (hw : Wt M es q σ) (hM : M ≤ 6) (hn : es.length ≤ 12) (hq : q < M) (hd : ∀ u, -300 ≤ d.getD u 0 ∧ d.getD u 0 ≤ 300) (hes : ∀ e ∈ es, 0 ≤ e.1 ∧ e.1 < e.2 ∧ e.2 < (M : Int)) :
    Ph2 M es d q σ (addSet f (upU (burntL M es (chipsOf M (Dv d es f)) (q : Int)) M) 1) :=
  h.next hw hq hes (by omega) fun v hv hnb => by
    have h1 := nextV_no (burntL_all (M := M) (es := es) (d := chipsOf M (Dv d es f)) (q := (q : Int)) (by omega)).2 v hv
    simp only [catchV, Bool.and_eq_false_iff, decide_eq_false_iff_not, Bool.not_eq_false'] at h1
    rw [Dv_get hn hd hes (h.high hw hM hes) hv] at h1
    rcases h1 with g | g
    · omega
    · exact absurd (by simpa [inL] using g) hnb
theorem Ph2.more {ord : List Int} (hb : Burns M (q : Int) ord) (hl : ord.length ≠ M) : ∃ v, v < M ∧ upU ord M ((v : Nat) : Int) = true := by
  apply Classical.byContradiction
  intro hno
  refine hl (hb.full_iff.2 fun v hv => ?_)
  apply Classical.byContradiction
  intro hn
  exact hno ⟨v, hv, by simp [upU, inL, hn, hv]⟩
theorem Ph2.red (h : Ph2 M es d q σ f) (hw : Wt M es q σ) (hM : M ≤ 6) (hes : ∀ e ∈ es, 0 ≤ e.1 ∧ e.1 < e.2 ∧ e.2 < (M : Int)) (hl : (burntL M es (chipsOf M (Dv d es f)) (q : Int)).length = M) : IsRed M es d q f := ⟨h.zero, h.high hw hM hes, h.pos, hl⟩
end
end Go.Proofs.Ytndncmjhpbjcoaa

/- The specification's l04Fire. -/
namespace Go.Proofs.Ytndncmjhpbjcoaa
open Go.RowKit

theorem own_emptyF (w : World) (base : Nat) (hb : base ≤ w.heap.size) (t : TypeId) : (w.alloc (.cells #[] t)).ownsRow base t 1 (.slice (some ⟨w.heap.size, 0, none⟩) 0 0) 0 [] :=
  ⟨rfl, .inr ⟨w.heap.size, 0, #[], rfl, hb, heap_alloc_new w _, Nat.le_refl _, Nat.zero_le _, rfl, rfl⟩⟩

end Go.Proofs.Ytndncmjhpbjcoaa

/- The specification's l05Reduce. -/
namespace Go.Proofs.Ytndncmjhpbjcoaa
open Go.RowKit

structure RdW (w wr : World) (M : Nat) (A : Option Addr) (c : Nat) (es : List (Int × Int)) (d : List Int) (f : Nat → Int) (A9 : Option Addr) : Prop where
  box : GB w wr (M : Int) A c es
  scr : Chips wr (w.heap.size + 1) (chipsOf M f)
  out : OwnI wr (w.heap.size + 1 + 1) A9 (chipsOf M (Dv d es f))
section
variable {w wr w2 : World} {M : Nat} {A A9 : Option Addr} {c : Nat} {es : List (Int × Int)} {d : List Int} {f g : Nat → Int}
theorem RdW.next (h : RdW w wr M A c es d f A9) (hb : Below wr.heap.size wr w2) : RdW w w2 M A c es d f A9 := ⟨h.box.next hb, h.scr.below hb, h.out.below hb⟩
theorem RdW.size (h : RdW w wr M A c es d f A9) : w.heap.size + 1 + 1 ≤ wr.heap.size := h.scr.lt
theorem GB.store (h : GB w wr (M : Int) A c es) (v : Nat) (x : Value) : GB w (wr.setCell ⟨w.heap.size + 1, v, none⟩ x) (M : Int) A c es := ⟨h.box.far (by simp only; omega) _, h.old.setCell (by simp only; omega) _⟩
end
end Go.Proofs.Ytndncmjhpbjcoaa

/- The program's reducing: valence, fire, payDebts. -/
namespace Go.Proofs.Ytndncmjhpbjcoaa
open Go.RowKit

theorem net_self {v : Nat} {e : Int × Int} (h : e.1 < e.2) : net (v : Int) v e = if (v : Int) = e.1 ∨ (v : Int) = e.2 then -1 else 0 := by
  unfold net ind
  repeat' split
  all_goals omega
set_option maxRecDepth 100000 in
set_option maxHeartbeats 2000000 in
theorem valence_any (pb cA v B : Nat) (A : Option Addr) (G : Value) (es : List (Int × Int)) (w : World) (hBw : B ≤ w.heap.size) (hn : es.length ≤ 12) (hes : ∀ e ∈ es, e.1 < e.2) (hB : Blk w pb 75 #[.slice A es.length cA, G]) (hE : EdgeS w B A es) :
    Calls Try.prog 102 #[.pointer (some ⟨pb, 0, none⟩), .int .i64 (v : Int)] w fun e w' => e = .returned (.int .i64 (-nets (v : Int) v es)) ∧ Below w.heap.size w w' := by
  have q0 : w.cell? ⟨pb, 0, none⟩ = some (.slice A es.length cA) := by rw [hB.cell]; rfl
  have HE := Lib.hid hE
  have HES := Lib.hid hes
  clear hE hes hB
  go_enter Try.func102, Try.ntmps102
  go_wp2
  go_loopw [5, 13] (fun n i wr => ∃ k : Nat, k ≤ es.length ∧ i = .int .i64 k ∧ n = .int .i64 (-nets (v : Int) v (es.take k)) ∧ Below w.heap.size w wr) (fun _ i _ => es.length - (intOf i).toNat)
  case atStart => exact ⟨0, Nat.zero_le _, rfl, by simp [nets], Below.refl _ _⟩
  case round =>
    obtain ⟨k, hk, rfl, rfl, hb⟩ := hrel
    have HB := Lib.hid hb
    have hbw := hb.size
    clear hb q0
    by_cases hlt : k < es.length
    · obtain ⟨b1, o1, e, rfl, hb1, he, hc0, hc1⟩ := (HE.out.keep (fun p hp => HB.out.cell (by omega)) (Nat.le_refl _)).at_ hlt
      have hlt2 := HES.out e (List.mem_of_getElem? he)
      have hi0 : (0 : Int) ≤ (k : Int) := Int.natCast_nonneg _
      have hi1 : (k : Int) < (es.length : Int) := by omega
      have hns := nets_self v (es.take k) (fun x hx => HES.out x (List.mem_of_mem_take hx))
      have hnk : (es.take k).length ≤ 12 := by rw [List.length_take]; omega
      have HN := Lib.hid ((nets_snoc (v : Int) v he).trans (by rw [net_self hlt2]))
      have HBA := Lib.hid (HB.out.alloc HB.out.size (Obj.cells #[.int .i64 e.1, .int .i64 e.2] 122))
      obtain ⟨x, hx⟩ : ∃ x, x = nets (v : Int) v (es.take k) := ⟨_, rfl⟩
      rw [← hx] at hns HN ⊢
      have hx0 : -12 ≤ x := by omega
      have hx1 : x ≤ 0 := hns.2
      have hx2 : 0 ≤ -x := by omega
      have hx3 : -x ≤ 12 := by omega
      clear hx he hns hnk hlt2
      by_cases h1 : e.1 = (v : Int)
      · have t1 : (e.1 == (v : Int)) = true := by simp [h1]
        have HN2 := Lib.hid (HN.out.trans (by rw [if_pos (.inl h1.symm)]))
        clear h1
        go_wp2
        exact ⟨⟨k + 1, by omega, by go_num, by rw [HN2.out]; congr 1; omega, HBA.out⟩, by simp [intOf]; omega⟩
      · have t1 : (e.1 == (v : Int)) = false := by simp [h1]
        by_cases h2 : e.2 = (v : Int)
        · have t2 : (e.2 == (v : Int)) = true := by simp [h2]
          have HN2 := Lib.hid (HN.out.trans (by rw [if_pos (.inr h2.symm)]))
          clear h1 h2
          go_wp2
          exact ⟨⟨k + 1, by omega, by go_num, by rw [HN2.out]; congr 1; omega, HBA.out⟩, by simp [intOf]; omega⟩
        · have t2 : (e.2 == (v : Int)) = false := by simp [h2]
          have HN2 := Lib.hid (HN.out.trans (by rw [if_neg (by omega)]))
          clear h1 h2
          go_wp2
          exact ⟨⟨k + 1, by omega, by go_num, by rw [HN2.out]; congr 1; omega, HBA.out⟩, by simp [intOf]; omega⟩
    · have HQ := Lib.hid (show es.take k = es from List.take_of_length_le (by omega))
      rw [HQ.out]
      go_wp2
      go_ret
      exact ⟨rfl, HB.out⟩

structure RdI (wr : World) (B pr pb g cg gs M q : Nat) (A : Option Addr) (cA : Nat) (es : List (Int × Int)) (d : List Int) (f : Nat → Int) : Prop where
  red : Blk wr pr 117 #[.pointer (some ⟨pb, 0, none⟩), .int .i64 (q : Int), .slice (some ⟨gs, 0, none⟩) M M]
  brd : Blk wr pb 75 #[.slice A es.length cA, .slice (some ⟨g, 0, none⟩) M cg]
  chips : Chips wr g (chipsOf M (Dv d es f))
  scr : Chips wr gs (chipsOf M f)
theorem RdI.below {wr w2 : World} {B pr pb g cg gs M q : Nat} {A : Option Addr} {cA : Nat} {es : List (Int × Int)} {d : List Int} {f : Nat → Int} (h : RdI wr B pr pb g cg gs M q A cA es d f) (hb : Below wr.heap.size wr w2) : RdI w2 B pr pb g cg gs M q A cA es d f :=
  ⟨h.red.below hb h.red.lt, h.brd.below hb h.brd.lt, h.chips.below hb, h.scr.below hb⟩
end Go.Proofs.Ytndncmjhpbjcoaa

/- The program's payDebts. -/
namespace Go.Proofs.Ytndncmjhpbjcoaa
open Go.RowKit

end Go.Proofs.Ytndncmjhpbjcoaa

/- The program's firings. -/
namespace Go.Proofs.Ytndncmjhpbjcoaa
open Go.RowKit

def Allow (c h : Nat → Int) (l : List Int) (T : Int) : Prop := 1 ≤ T ∧ T ≤ 9223372036854775807 ∧ ∀ v : Nat, (v : Int) ∈ l → 0 < h v → T ≤ (c v).tdiv (h v)
theorem Allow.start (c h : Nat → Int) : Allow c h [] 9223372036854775807 := ⟨by omega, by omega, fun v hv => by simp at hv⟩
theorem Allow.skip {c h : Nat → Int} {l : List Int} {T : Int} {v : Nat} (a : Allow c h l T) (hv : ¬ 0 < h v) : Allow c h (l ++ [(v : Int)]) T := ⟨a.1, a.2.1, fun u hu hp => by
  rw [List.mem_append, List.mem_singleton] at hu
  rcases hu with hu | hu
  · exact a.2.2 u hu hp
  · rw [show u = v by omega] at hp
    exact absurd hp hv⟩
theorem quo_pos {x y : Int} (hy : 0 < y) (h : y ≤ x) : 1 ≤ x.tdiv y ∧ x.tdiv y ≤ x ∧ x.tdiv y * y ≤ x := by
  rw [Int.tdiv_eq_ediv_of_nonneg (by omega)]
  have h1 := Int.ediv_mul_le x (show y ≠ 0 by omega)
  have h2 : 1 ≤ x / y := by
    rw [Int.le_ediv_iff_mul_le hy]
    omega
  have h3 : x / y ≤ x := Int.ediv_le_self _ (by omega)
  exact ⟨h2, h3, h1⟩
theorem Allow.take {c h : Nat → Int} {l : List Int} {T : Int} {v : Nat} (a : Allow c h l T) (hv : 0 < h v) (hc : h v ≤ c v) : Allow c h (l ++ [(v : Int)]) (min T ((c v).tdiv (h v))) := by
  have hq := quo_pos hv hc
  refine ⟨by have := a.1; omega, by have := a.2.1; omega, fun u hu hp => ?_⟩
  rw [List.mem_append, List.mem_singleton] at hu
  rcases hu with hu | hu
  · have := a.2.2 u hu hp
    omega
  · rw [show u = v by omega]
    omega
end Go.Proofs.Ytndncmjhpbjcoaa

/- The program's fireSpared and reduce. -/
namespace Go.Proofs.Ytndncmjhpbjcoaa
open Go.RowKit

section
variable {M : Nat} {es : List (Int × Int)} {d : List Int} {q : Nat} {f : Nat → Int} {σ : Nat → Int}
end
end Go.Proofs.Ytndncmjhpbjcoaa

/- The program's reduce. -/
namespace Go.Proofs.Ytndncmjhpbjcoaa
open Go.RowKit

end Go.Proofs.Ytndncmjhpbjcoaa

/- ReducedOf and ReducingScript: both sides. -/
namespace Go.Proofs.Ytndncmjhpbjcoaa
open Go.RowKit

end Go.Proofs.Ytndncmjhpbjcoaa

/- DegreeOf: both sides are one plain sum that wraps. -/
namespace Go.Proofs.Ytndncmjhpbjcoaa
open Go.RowKit

def degB (xs : List Int) : Nat → Int
  | 0 => 0
  | j + 1 => wrap64 (degB xs j + xs.getD j 0)
theorem getD_ofD {l : List Int} {j : Nat} {z : Int} (h : l[j]? = some z) : l.getD j 0 = z := by simp [List.getD, h]
theorem degB_step {xs : List Int} {j : Nat} {x : Int} (h : xs[j]? = some x) : degB xs (j + 1) = wrap64 (degB xs j + x) := by rw [degB, getD_ofD h]

set_option maxHeartbeats 1000000 in
theorem implDeg (A : Option Addr) (c : Nat) (xs : List Int) (w : World) (hn : xs.length ≤ 1048576) (hS : IntS w w.heap.size A xs) :
    Calls Try.prog 21 #[.slice A xs.length c] w fun e w' => e = .returned (.int .i64 (degB xs xs.length)) ∧ Below w.heap.size w w' := by
  have HS := Lib.hid hS
  clear hS
  go_enter Try.func21, Try.ntmps21
  go_wp2
  go_loop [3, 8] (fun s i => ∃ j : Nat, j ≤ xs.length ∧ i = .int .i64 j ∧ s = .int .i64 (degB xs j)) (fun _ i => xs.length - (intOf i).toNat)
  case atStart => exact ⟨0, Nat.zero_le _, rfl, rfl⟩
  case round =>
    obtain ⟨j, hj, rfl, rfl⟩ := hrel
    by_cases hlt : j < xs.length
    · obtain ⟨b1, o1, x, rfl, hb1, he, hc0⟩ := HS.out.at_ hlt
      have hj0 : (0 : Int) ≤ (j : Int) := Int.natCast_nonneg _
      have hj1 : (j : Int) < (xs.length : Int) := by omega
      have HD := Lib.hid (degB_step he)
      clear he
      go_wp2
      exact ⟨⟨j + 1, by omega, by go_num, by rw [HD.out]⟩, by simp [intOf]; omega⟩
    · have HJ := Lib.hid (show j = xs.length by omega)
      go_wp2
      go_ret
      exact ⟨ret_intE (by rw [HJ.out]), Below.refl _ _⟩
end Go.Proofs.Ytndncmjhpbjcoaa
