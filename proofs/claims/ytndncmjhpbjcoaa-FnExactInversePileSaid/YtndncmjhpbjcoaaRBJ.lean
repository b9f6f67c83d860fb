/- One text out of several: Conn RdQ FireS RdS RdI RdJ RdK RdL RdR RedO Deg. -/
import Derived.Test.YtndncmjhpbjcoaaRBG
import Derived.Test.YtndncmjhpbjcoaaRBB
import Derived.Test.YtndncmjhpbjcoaaRBI
import Derived.Deep.CutRange
import Derived.Deep.LoopGhost
import Derived.Test.YtndncmjhpbjcoaaRBA
set_option linter.all false
/- A connected graph is cut by every set of vertices. -/
namespace Go.Proofs.Ytndncmjhpbjcoaa
open Go.RowKit

theorem near_cut {es : List (Int × Int)} {p : Int → Bool} {v : Int} {k : Nat} {u : Int} (h : Near es v k u) (hne : p v ≠ p u) : ∃ e ∈ es, p e.1 ≠ p e.2 := by
  induction h with
  | start => exact absurd rfl hne
  | stay _ ih => exact ih hne
  | @step k a b _ ht ih =>
    by_cases hab : p v = p a
    · rcases ht with g | g
      · exact ⟨(a, b), g, by rw [← hab]; exact hne⟩
      · exact ⟨(b, a), g, by simp only; rw [← hab]; exact Ne.symm hne⟩
    · exact ih hab
theorem Conn.cut {M : Nat} {es : List (Int × Int)} (h : Conn (M : Int) es) : Cut M es := by
  rintro p ⟨x, hx0, hx1, hpx⟩ ⟨y, hy0, hy1, hpy⟩
  obtain ⟨k1, n1⟩ := h x hx0 hx1
  obtain ⟨k2, n2⟩ := h y hy0 hy1
  cases hp : p 0 with
  | true => exact near_cut n2 (by rw [hp, hpy]; decide)
  | false => exact near_cut n1 (by rw [hp, hpx]; decide)
end Go.Proofs.Ytndncmjhpbjcoaa

/- Reducing: what the walks ask of the plain math. -/
namespace Go.Proofs.Ytndncmjhpbjcoaa
open Go.RowKit

section
variable {M : Nat} {es : List (Int × Int)} {d : List Int} {q : Nat} {f : Nat → Int} {σ : Nat → Int}
theorem fired_Dv (hes : ∀ e ∈ es, 0 ≤ e.1 ∧ e.1 < e.2 ∧ e.2 < (M : Int)) (hf : ∀ u, u < M → -1000000000 ≤ f u ∧ f u ≤ 1000000000) : firedB M es d (chipsOf M f) = chipsOf M (Dv d es f) := by
  unfold firedB
  refine chipsOf_eq fun u hu => ?_
  rw [Dv, terms_F, termsF_congr u es fun e he => ?_]
  obtain ⟨h1, h2, h3⟩ := hes e he
  have a1 := hf e.1.toNat (by omega)
  have a2 := hf e.2.toNat (by omega)
  exact ⟨chips_get (by omega) (by omega), chips_get (by omega) (by omega)⟩
theorem addSet_sum {U : Int → Bool} {t : Int} (ht : 0 ≤ t) (hx : ∃ v, v < M ∧ U ((v : Nat) : Int) = true) : sumV f M + t ≤ sumV (addSet f U t) M := by
  obtain ⟨v, hv, hU⟩ := hx
  have h1 := sumV_le M (f := fun u => f u + t * ind u (v : Int)) (g := addSet f U t) (fun u _ => by
    unfold addSet ind
    by_cases e : u = v
    · subst e
      rw [if_pos rfl, if_pos hU]; omega
    · rw [if_neg (by omega)]
      split <;> omega)
  rw [sumV_add, show (fun u => t * ind u (v : Int)) = (fun u => (fun _ => t) u * ind u (v : Int)) from rfl, sumV_ind, if_pos hv] at h1
  exact h1
def upU (ord : List Int) (k : Nat) (x : Int) : Bool := !inL ord x && decide (x < (k : Int))
theorem upU_zero (f : Nat → Int) (ord : List Int) (t : Int) : addSet f (upU ord 0) t = f := by
  funext u
  rw [addSet, if_neg]
  simp [upU]
theorem upU_in {ord : List Int} {k : Nat} {t : Int} (f : Nat → Int) (h : inL ord (k : Int) = true) : addSet f (upU ord (k + 1)) t = addSet f (upU ord k) t := by
  funext u
  unfold addSet upU
  by_cases e : u = k
  · subst e
    simp [h]
  · have : ((u : Int) < ((k + 1 : Nat) : Int)) = ((u : Int) < (k : Int)) := by apply propext; omega
    simp only [this]
theorem upU_out {ord : List Int} {k : Nat} {t : Int} (f : Nat → Int) (h : inL ord (k : Int) = false) : addSet f (upU ord (k + 1)) t = addAt (addSet f (upU ord k) t) k t := by
  funext u
  unfold addAt addSet upU
  by_cases e : u = k
  · subst e
    have : (u : Int) < ((u + 1 : Nat) : Int) := by omega
    simp only [h, this, decide_true, Bool.not_false, Bool.and_self, if_true]
    simp
  · have : ((u : Int) < ((k + 1 : Nat) : Int)) = ((u : Int) < (k : Int)) := by apply propext; omega
    simp only [this, if_neg e]
theorem upU_at {ord : List Int} {k : Nat} {t : Int} (f : Nat → Int) : addSet f (upU ord k) t k = f k := by
  unfold addSet upU
  simp
theorem Dv_get (hn : es.length ≤ 12) (hd : ∀ u, -300 ≤ d.getD u 0 ∧ d.getD u 0 ≤ 300) (hes : ∀ e ∈ es, 0 ≤ e.1 ∧ e.1 < e.2 ∧ e.2 < (M : Int)) (hf : ∀ u, u < M → -1000000000 ≤ f u ∧ f u ≤ 1000000000) {u : Nat} (hu : u < M) : (chipsOf M (Dv d es f)).getD u 0 = Dv d es f u :=
  chips_get hu (Dv_bound hn (fun u => by have := hd u; omega) hes hf u)
theorem Ph1.wide (h : Ph1 M es d q f) (hw : Wt M es q σ) (hM : M ≤ 6) (hes : ∀ e ∈ es, 0 ≤ e.1 ∧ e.1 < e.2 ∧ e.2 < (M : Int)) (hd : ∀ u, -300 ≤ d.getD u 0 ∧ d.getD u 0 ≤ 300) : ∀ u, u < M → -1000000000 ≤ f u ∧ f u ≤ 1000000000 := fun u hu => by
  have := h.low hw hM hes hd u hu
  omega
theorem Ph1.one (h : Ph1 M es d q f) (hn : es.length ≤ 12) (hes : ∀ e ∈ es, 0 ≤ e.1 ∧ e.1 < e.2 ∧ e.2 < (M : Int)) {v : Nat} (hv : v ≠ q) (hlt : Dv d es f v < 0) : Ph1 M es d q (addAt f v (-1)) :=
  h.step hes hv (k := 1) (by omega) (by have := nets_self v es (fun e he => (hes e he).2.1); omega)
theorem Ph2.next (h : Ph2 M es d q σ f) (hw : Wt M es q σ) (hq : q < M) (hes : ∀ e ∈ es, 0 ≤ e.1 ∧ e.1 < e.2 ∧ e.2 < (M : Int)) {t : Int} (ht : 0 ≤ t)
    (hc : ∀ v : Nat, v < M → ¬ (v : Int) ∈ burntL M es (chipsOf M (Dv d es f)) (q : Int) → t * heat (inL (burntL M es (chipsOf M (Dv d es f)) (q : Int))) v es ≤ Dv d es f v) :
    Ph2 M es d q σ (addSet f (upU (burntL M es (chipsOf M (Dv d es f)) (q : Int)) M) t) := by
  obtain ⟨hb, hnx⟩ := burntL_all (M := M) (es := es) (d := chipsOf M (Dv d es f)) (q := (q : Int)) (by omega)
  refine h.fire hw hes ht ?_ fun v hv hU => ?_
  · simp [upU, inL, hb.first]
  · simp only [upU, Bool.and_eq_true, Bool.not_eq_true', decide_eq_true_eq] at hU
    have h1 := hc v hv (by simpa [inL] using hU.1)
    rw [heat_congr (r := inL (burntL M es (chipsOf M (Dv d es f)) (q : Int))) v es fun e he => ?_]
    · exact h1
    · obtain ⟨g1, g2, g3⟩ := hes e he
      have a1 : e.1 < (M : Int) := by omega
      simp [upU, a1, g3]
theorem Ph2.one (h : Ph2 M es d q σ f) (hw : Wt M es q σ) (hM : M ≤ 6) (hn : es.length ≤ 12) (hq : q < M) (hd : ∀ u, -300 ≤ d.getD u 0 ∧ d.getD u 0 ≤ 300) (hes : ∀ e ∈ es, 0 ≤ e.1 ∧ e.1 < e.2 ∧ e.2 < (M : Int)) :
    Ph2 M es d q σ (addSet f (upU (burntL M es (chipsOf M (Dv d es f)) (q : Int)) M) 1) :=
  h.next hw hq hes (by omega) fun v hv hnb => by
    have h1 := nextV_no (burntL_all (M := M) (es := es) (d := chipsOf M (Dv d es f)) (q := (q : Int)) (by omega)).2 v hv
    simp only [catchV, Bool.and_eq_false_iff, decide_eq_false_iff_not, Bool.not_eq_false'] at h1
    rw [Dv_get hn hd hes (h.high hw hM hes) hv] at h1
    rcases h1 with g | g
    · omega
    · exact absurd (by simpa [inL] using g) hnb
theorem Ph2.more {ord : List Int} (hb : Burns M (q : Int) ord) (hl : ord.length ≠ M) : ∃ v, v < M ∧ upU ord M ((v : Nat) : Int) = true := by
  apply Classical.byContradiction
  intro hno
  refine hl (hb.full_iff.2 fun v hv => ?_)
  apply Classical.byContradiction
  intro hn
  exact hno ⟨v, hv, by simp [upU, inL, hn, hv]⟩
theorem Ph2.red (h : Ph2 M es d q σ f) (hw : Wt M es q σ) (hM : M ≤ 6) (hes : ∀ e ∈ es, 0 ≤ e.1 ∧ e.1 < e.2 ∧ e.2 < (M : Int)) (hl : (burntL M es (chipsOf M (Dv d es f)) (q : Int)).length = M) : IsRed M es d q f := ⟨h.zero, h.high hw hM hes, h.pos, hl⟩
theorem debt_Dv (hn : es.length ≤ 12) (hd : ∀ u, -300 ≤ d.getD u 0 ∧ d.getD u 0 ≤ 300) (hes : ∀ e ∈ es, 0 ≤ e.1 ∧ e.1 < e.2 ∧ e.2 < (M : Int)) (hf : ∀ u, u < M → -1000000000 ≤ f u ∧ f u ≤ 1000000000) {u : Nat} (hu : u < M) : debtAt (chipsOf M (Dv d es f)) (q : Int) u = (!decide ((u : Int) = (q : Int)) && decide (Dv d es f u < 0)) := by
  rw [debtAt, Dv_get hn hd hes hf hu]
theorem noDebt (hn : es.length ≤ 12) (hd : ∀ u, -300 ≤ d.getD u 0 ∧ d.getD u 0 ≤ 300) (hes : ∀ e ∈ es, 0 ≤ e.1 ∧ e.1 < e.2 ∧ e.2 < (M : Int)) (hf : ∀ u, u < M → -1000000000 ≤ f u ∧ f u ≤ 1000000000) (h : hasDebt (chipsOf M (Dv d es f)) (q : Int) = false) : ∀ u, u < M → u ≠ q → 0 ≤ Dv d es f u := fun u hu huq => by
  have h1 : debtAt (chipsOf M (Dv d es f)) (q : Int) u = false := by
    rw [hasDebt, List.any_eq_false, chipsOf_len] at h
    simpa using h u (List.mem_range.2 hu)
  rw [debt_Dv hn hd hes hf hu] at h1
  have : ¬ (u : Int) = (q : Int) := by omega
  simp [this] at h1
  exact h1
end
end Go.Proofs.Ytndncmjhpbjcoaa

/- The specification's l04Fire. -/
namespace Go.Proofs.Ytndncmjhpbjcoaa
open Go.RowKit

def specF (d s : List Int) (es : List (Int × Int)) (k u : Nat) : Int := d.getD u 0 + terms s u (es.take k)
theorem specF_step (d s : List Int) {es : List (Int × Int)} {k a b : Nat} {sa sb : Int} (he : es[k]? = some ((a : Int), (b : Int))) (hab : a ≠ b) (ha : s[a]? = some sa) (hb : s[b]? = some sb) (u : Nat) :
    addAt (addAt (specF d s es k) a (sb - sa)) b (sa - sb) u = specF d s es (k + 1) u := by
  have h1 : s.getD a 0 = sa := by simp [List.getD, ha]
  have h2 : s.getD b 0 = sb := by simp [List.getD, hb]
  have hT := terms_snoc s u he
  have hterm : term s u ((a : Int), (b : Int)) = ind u a * (sb - sa) + ind u b * (sa - sb) := by simp only [term, Int.toNat_natCast, h1, h2]
  simp only [addAt, specF, hT, hterm]
  unfold ind
  by_cases e1 : u = b
  · subst e1
    rw [if_pos rfl, if_neg (Ne.symm hab), if_neg (by omega), if_pos rfl]
    omega
  · rw [if_neg e1]
    by_cases e2 : u = a
    · subst e2
      rw [if_pos rfl, if_pos rfl, if_neg (by omega)]
      omega
    · rw [if_neg e2, if_neg (by omega), if_neg (by omega)]
      omega
theorem specF_zero (d s : List Int) (es : List (Int × Int)) : specF d s es 0 = fun u => d.getD u 0 := by funext u; simp [specF, terms]
theorem specF_all (M : Nat) (d s : List Int) (es : List (Int × Int)) {k : Nat} (h : es.length ≤ k) : chipsOf M (specF d s es k) = firedB M es d s := chipsOf_eq fun u _ => by rw [specF, List.take_of_length_le h]
theorem wrap3 (x sa sb : Int) : wrap64 (wrap64 (wrap64 x - sa) + sb) = wrap64 (x + (sb - sa)) := by unfold wrap64; omega
theorem own_emptyF (w : World) (base : Nat) (hb : base ≤ w.heap.size) (t : TypeId) : (w.alloc (.cells #[] t)).ownsRow base t 1 (.slice (some ⟨w.heap.size, 0, none⟩) 0 0) 0 [] :=
  ⟨rfl, .inr ⟨w.heap.size, 0, #[], rfl, hb, heap_alloc_new w _, Nat.le_refl _, Nat.zero_le _, rfl, rfl⟩⟩

set_option maxRecDepth 100000 in
set_option maxHeartbeats 4000000 in
theorem l04Fire_any (N : Int) (M : Nat) (A D S : Option Addr) (c cd cs : Nat) (es : List (Int × Int)) (d s : List Int) (w : World) (hM0 : 0 < M) (hM6 : M ≤ 6) (hn : es.length ≤ 12) (hdl : d.length = M) (hsl : s.length = M)
    (hdw : ∀ x ∈ d, -9223372036854775808 ≤ x ∧ x ≤ 9223372036854775807) (hes : ∀ e ∈ es, 0 ≤ e.1 ∧ e.1 < e.2 ∧ e.2 < (M : Int)) (hE : EdgeS w w.heap.size A es) (hD : IntS w w.heap.size D d) (hS : IntS w w.heap.size S s) :
    Calls Try.prog 146 #[.agg #[.int .i64 N, .slice A es.length c], .slice D d.length cd, .slice S s.length cs] w (GivesInts w (firedB M es d s)) := by
  obtain ⟨i0, hi, hz0, hz1, hz2⟩ := info_parts intInfo
  obtain ⟨bd, od, rfl, hbd, hcd⟩ := hD (by omega)
  have hst := chips_start hdl hdw
  have HST := Lib.hid hst
  have HDL := Lib.hid hdl
  have HSL := Lib.hid hsl
  have HE := Lib.hid hE
  have HS := Lib.hid hS
  have HES := Lib.hid hes
  have HCD := Lib.hid hcd
  have hd6 : d.length ≤ 6 := by omega
  have hs6 : s.length ≤ 6 := by omega
  have hd0 : 0 < d.length := by omega
  have hO0 := own_emptyF (w.alloc (Obj.cells #[.int .i64 N, .slice A es.length c] 25)) w.heap.size (by simp) 3
  rw [World.size_alloc] at hO0
  have HO0 := Lib.hid hO0
  have hbA : Below w.heap.size w ((w.alloc (Obj.cells #[.int .i64 N, .slice A es.length c] 25)).alloc (Obj.cells #[] 3)) := ((Below.refl _ _).alloc (Nat.le_refl _) _).alloc (by simp) _
  clear hO0 hE hS hes hD hst hdl hsl hcd hdw
  go_enter Try.func146, Try.ntmps146
  go_wp2_with (at_builtin; refine wpList_append_own _ rfl _ _ 28 rfl w.heap.size 3 i0 (.int .i64 0) 1 8 Try.underlying28 hi hz0 hz1 hz2 rfl (by decide) _ _ _ rfl HO0.out ⟨bd, od, none⟩ d.length cd (intCells d) rfl ?c0 ?c1 ?c2 ?c3 ?c4 ?c5 ?_)
  case c0 => simp [intCells]
  case c1 =>
    intro j u hj
    simp only [intCells, List.getElem?_map, Option.map_eq_some_iff] at hj
    obtain ⟨z, hz, rfl⟩ := hj
    rw [Addr.add_lit]
    exact (hbA.cell (p := ⟨bd, od + j, none⟩) hbd).trans (HCD.out j z hz)
  case c2 =>
    intro u hu
    simp only [intCells, List.mem_map] at hu
    obtain ⟨z, _, rfl⟩ := hu
    rfl
  case c3 => unfold maxLen; omega
  case c4 => omega
  case c5 => simp; omega
  intro v' w1 hown hgrow _
  obtain ⟨g, cg, rfl, hg, hch⟩ := Chips.of_own (l := d) hown hd0
  have hb1 : Below w.heap.size w w1 := hbA.grown hgrow (by simp; omega) (fun q hq => (HO0.out.lt q hq).1)
  have hbx1 := ((Blk.new w 25 #[.int .i64 N, .slice A es.length c]).alloc (Obj.cells #[] 3)).moves (grownMv (g := w.heap.size + 1) hgrow) (.inl (by omega))
  have x1 : w1.cell? ⟨w.heap.size, 1, none⟩ = some (.slice A es.length c) := by rw [hbx1.cell]; rfl
  clear hbx1
  have hch0 := hch
  rw [← HST.out, ← specF_zero d s es] at hch0
  have HCH := Lib.hid hch0
  have HDM := Lib.hid (show d.length = M from HDL.out)
  clear hown hgrow hch hch0 hbA HCD
  go_wp2
  go_loopw [16] (fun i wr => ∃ k : Nat, k ≤ es.length ∧ i = .int .i64 k ∧ Chips wr g (chipsOf M (specF d s es k)) ∧ Below w.heap.size w wr) (fun i _ => es.length - (intOf i).toNat)
  case atStart => exact ⟨0, Nat.zero_le _, rfl, HCH.out, hb1⟩
  case round =>
    obtain ⟨k, hk, rfl, hcr, hb⟩ := hrel
    have HK := Lib.hid hcr
    clear hcr
    by_cases hlt : k < es.length
    · obtain ⟨b1, o1, e, rfl, hb1', he, hc0, hc1⟩ := (HE.out.below hb).at_ hlt
      obtain ⟨h1, h2, h3⟩ := HES.out e (List.mem_of_getElem? he)
      obtain ⟨x, y⟩ := e
      simp only at h1 h2 h3 hc0 hc1
      obtain ⟨a, rfl⟩ : ∃ a : Nat, x = (a : Int) := ⟨x.toNat, by omega⟩
      obtain ⟨b, rfl⟩ : ∃ b : Nat, y = (b : Int) := ⟨y.toNat, by omega⟩
      have haM : a < M := by omega
      have hbM : b < M := by omega
      have hab : a ≠ b := by omega
      obtain ⟨bs, os, sa, rfl, hbs, hsa, ea⟩ := (HS.out.below hb).at_ (k := a) (by have := HSL.out; omega)
      obtain ⟨bs2, os2, sb, hS2, _, hsb, eb⟩ := (HS.out.below hb).at_ (k := b) (by have := HSL.out; omega)
      injection hS2 with hS2
      injection hS2 with hS3 hS4
      subst hS3
      subst hS4
      have HF := Lib.hid (chipsOf_eq (M := M) fun u _ => specF_step d s he hab hsa hsb u)
      have hi0 : (0 : Int) ≤ (k : Int) := Int.natCast_nonneg _
      have hi1 : (k : Int) < (es.length : Int) := by omega
      have ha0 : (0 : Int) ≤ (a : Int) := Int.natCast_nonneg _
      have hb0 : (0 : Int) ≤ (b : Int) := Int.natCast_nonneg _
      have ha1 : (a : Int) < (d.length : Int) := by have := HDM.out; omega
      have hb2 : (b : Int) < (d.length : Int) := by have := HDM.out; omega
      have ha3 : (a : Int) < (s.length : Int) := by have := HSL.out; omega
      have hb3 : (b : Int) < (s.length : Int) := by have := HSL.out; omega
      have hbAA : Below wr.heap.size wr (wr.alloc (Obj.cells #[.int .i64 (a : Int), .int .i64 (b : Int)] 122)) := (Below.refl _ _).alloc (Nat.le_refl _) _
      have hblk0 := Blk.new wr 122 #[.int .i64 (a : Int), .int .i64 (b : Int)]
      have hC0 := HK.out.below hbAA
      have D0 := hb.alloc hb.size (Obj.cells #[.int .i64 (a : Int), .int .i64 (b : Int)] 122)
      have hbsw : bs < wr.heap.size := by have := hb.size; omega
      have hgw : g < wr.heap.size := HK.out.lt
      have ea0 := (hbAA.cell (p := ⟨bs, os + a, none⟩) hbsw).trans ea
      have eb0 := (hbAA.cell (p := ⟨bs, os + b, none⟩) hbsw).trans eb
      have C0 := Lib.hid hC0
      have BE := Lib.hid hblk0
      have HAB := Lib.hid hab
      have hbg : bs < g := by omega
      have hww : w.heap.size ≤ wr.heap.size := hb.size
      clear he hsa hsb ea eb hC0 hblk0 hbAA h1 h2 h3 hab hb1
      go_wp2_with fail
      obtain ⟨W0, hW0⟩ : ∃ X : World, X = wr.alloc (Obj.cells #[.int .i64 (a : Int), .int .i64 (b : Int)] 122) := ⟨_, rfl⟩
      rw [← hW0] at C0 BE D0 ea0 eb0 ⊢
      clear hW0 hc0 hc1
      have p0 : W0.cell? ⟨wr.heap.size, 0, none⟩ = some (.int .i64 (a : Int)) := by rw [BE.out.cell]; rfl
      have q0 : W0.cell? ⟨wr.heap.size, 1, none⟩ = some (.int .i64 (b : Int)) := by rw [BE.out.cell]; rfl
      obtain ⟨d0, f0⟩ := C0.out.cell a _ (chipsOf_at _ haM)
      have C1 := C0.out.set_ (a := a) (by rw [chipsOf_len]; exact haM) (wrap64 (wrap64 (wrap64 (specF d s es k a) - sa) + sb))
      rw [chipsOf_set M _ a _ (sb - sa) (wrap3 _ _ _)] at C1
      have C1' := Lib.hid (C1.below (Below.refl _ _).drew)
      clear C1
      have D1 := (D0.setCell (p := ⟨g, a, none⟩) hg (.int .i64 (wrap64 (wrap64 (wrap64 (specF d s es k a) - sa) + sb)))).drew
      have BE1 := Lib.hid ((BE.out.far (p := ⟨g, a, none⟩) (by simp only; omega) (.int .i64 (wrap64 (wrap64 (wrap64 (specF d s es k a) - sa) + sb)))).drew)
      have ea1 : (W0.setCell ⟨g, a, none⟩ (.int .i64 (wrap64 (wrap64 (wrap64 (specF d s es k a) - sa) + sb)))).drew.cell? ⟨bs, os + a, none⟩ = some (.int .i64 sa) := by
        show (W0.setCell _ _).cell? _ = _
        rw [World.cell?_setCell_other _ _ _ _ (by simp only [ne_eq, Addr.mk.injEq]; omega)]; exact ea0
      have eb1 : (W0.setCell ⟨g, a, none⟩ (.int .i64 (wrap64 (wrap64 (wrap64 (specF d s es k a) - sa) + sb)))).drew.cell? ⟨bs, os + b, none⟩ = some (.int .i64 sb) := by
        show (W0.setCell _ _).cell? _ = _
        rw [World.cell?_setCell_other _ _ _ _ (by simp only [ne_eq, Addr.mk.injEq]; omega)]; exact eb0
      obtain ⟨W1, hW1⟩ : ∃ X : World, X = (W0.setCell ⟨g, a, none⟩ (.int .i64 (wrap64 (wrap64 (wrap64 (specF d s es k a) - sa) + sb)))).drew := ⟨_, rfl⟩
      rw [← hW1] at C1' D1 BE1 ea1 eb1
      have HW1 := Lib.hid hW1
      clear hW1
      go_cut [16] from 16 to 62 (fun s16 wx => s16 = .int .i64 (k : Int) ∧ wx = W1)
      case first =>
        clear C1' D1 BE1 ea1 eb1 HF HE HS HES HST HDL HSL HO0 HCH HDM HK hb D0
        go_region
        go_wp2_with fail
        go_meet
        exact ⟨rfl, HW1.out.symm⟩
      case rest =>
        obtain ⟨rfl, rfl⟩ := hcut
        obtain ⟨V, rfl⟩ : ∃ V, V = wc := ⟨_, rfl⟩
        clear p0 q0 d0 f0 D0 ea0 eb0 C0 BE HW1
        have p1 : V.cell? ⟨wr.heap.size, 0, none⟩ = some (.int .i64 (a : Int)) := by rw [BE1.out.cell]; rfl
        have q1 : V.cell? ⟨wr.heap.size, 1, none⟩ = some (.int .i64 (b : Int)) := by rw [BE1.out.cell]; rfl
        obtain ⟨d1, f1⟩ := C1'.out.cell b _ (chipsOf_at _ hbM)
        have C2 := C1'.out.set_ (a := b) (by rw [chipsOf_len]; exact hbM) (wrap64 (wrap64 (wrap64 (addAt (specF d s es k) a (sb - sa) b) - sb) + sa))
        rw [chipsOf_set M _ b _ (sa - sb) (wrap3 _ _ _), HF.out] at C2
        have C2' := Lib.hid (C2.below (Below.refl _ _).drew)
        have D2 := Lib.hid ((D1.setCell (p := ⟨g, b, none⟩) hg (.int .i64 (wrap64 (wrap64 (wrap64 (addAt (specF d s es k) a (sb - sa) b) - sb) + sa)))).drew)
        clear C2 D1 HF
        clear C1' BE1 HE HS HES HST HSL HO0 HCH HK hb HAB
        go_wp2_with fail
        go_region
        go_wp2
        go_roundw
        case rel => exact ⟨k + 1, by omega, by go_num, C2'.out, D2.out⟩
        case measure => simp [intOf]; omega
    · have hK2 := HK.out
      rw [specF_all M d s es (by omega)] at hK2
      have HK2 := Lib.hid (hK2.own (base := w.heap.size) hg)
      have HFL := Lib.hid (firedB_len M es d s)
      clear hK2
      go_wp2
      go_ret
      exact ⟨some ⟨g, 0, none⟩, cg, by rw [HFL.out, ← HDM.out]; rfl, HK2.out, hb⟩
end Go.Proofs.Ytndncmjhpbjcoaa

/- The specification's l05Reduce. -/
namespace Go.Proofs.Ytndncmjhpbjcoaa
open Go.RowKit

structure RdW (w wr : World) (M : Nat) (A : Option Addr) (c : Nat) (es : List (Int × Int)) (d : List Int) (f : Nat → Int) (A9 : Option Addr) : Prop where
  box : GB w wr (M : Int) A c es
  scr : Chips wr (w.heap.size + 1) (chipsOf M f)
  out : OwnI wr (w.heap.size + 1 + 1) A9 (chipsOf M (Dv d es f))
section
variable {w wr w2 : World} {M : Nat} {A A9 : Option Addr} {c : Nat} {es : List (Int × Int)} {d : List Int} {f g : Nat → Int}
theorem RdW.next (h : RdW w wr M A c es d f A9) (hb : Below wr.heap.size wr w2) : RdW w w2 M A c es d f A9 := ⟨h.box.next hb, h.scr.below hb, h.out.below hb⟩
theorem RdW.size (h : RdW w wr M A c es d f A9) : w.heap.size + 1 + 1 ≤ wr.heap.size := h.scr.lt
theorem RdW.fired (h1 : GB w wr (M : Int) A c es) (h2 : Chips wr (w.heap.size + 1) (chipsOf M f)) (hb : Below wr.heap.size wr w2) {A2 : Option Addr} (ho : OwnI w2 wr.heap.size A2 (chipsOf M (Dv d es f))) : RdW w w2 M A c es d f A2 :=
  ⟨h1.next hb, h2.below hb, ho.mono h2.lt⟩
theorem GB.store (h : GB w wr (M : Int) A c es) (v : Nat) (x : Value) : GB w (wr.setCell ⟨w.heap.size + 1, v, none⟩ x) (M : Int) A c es := ⟨h.box.far (by simp only; omega) _, h.old.setCell (by simp only; omega) _⟩
end
def GivesRed (w : World) (M : Nat) (es : List (Int × Int)) (d : List Int) (q : Nat) (e : Ending) (w' : World) : Prop :=
  ∃ (A1 A2 : Option Addr) (c1 c2 : Nat) (f : Nat → Int), e = .returned (.tuple #[.slice A1 M c1, .slice A2 M c2]) ∧ IsRed M es d q f ∧ OwnI w' w.heap.size A1 (chipsOf M (Dv d es f)) ∧ OwnI w' w.heap.size A2 (chipsOf M f) ∧ Below w.heap.size w w'
theorem chips_cell {w : World} {g M v : Nat} {f : Nat → Int} (h : Chips w g (chipsOf M f)) (hv : v < M) (hf : -1000000000 ≤ f v ∧ f v ≤ 1000000000) : w.cell? ⟨g, v, none⟩ = some (.int .i64 (f v)) ∧ w.frozen? ⟨g, v, none⟩ = false := by
  have := h.cell v _ (chipsOf_at f hv)
  rw [wrap64_of (by omega) (by omega)] at this
  exact this
theorem chips_store {w : World} {g M v : Nat} {f : Nat → Int} (h : Chips w g (chipsOf M f)) (hv : v < M) (t : Int) (hf : -1000000000 ≤ f v + t ∧ f v + t ≤ 1000000000) : Chips (w.setCell ⟨g, v, none⟩ (.int .i64 (f v + t))) g (chipsOf M (addAt f v t)) := by
  have := h.set_ (a := v) (by rw [chipsOf_len]; exact hv) (f v + t)
  rw [chipsOf_set M f v (f v + t) t (wrap64_of (by omega) (by omega)).symm] at this
  exact this

set_option maxRecDepth 100000 in
set_option maxHeartbeats 8000000 in
theorem l05ReduceW_any (A D : Option Addr) (c cd M q : Nat) (es : List (Int × Int)) (d : List Int) (w : World) (hM0 : 0 < M) (hM : M ≤ 6) (hq : q < M) (hd : d.length = M) (hn : es.length ≤ 12) (hes : ∀ e ∈ es, 0 ≤ e.1 ∧ e.1 < e.2 ∧ e.2 < (M : Int)) (hdb : ∀ u, -300 ≤ d.getD u 0 ∧ d.getD u 0 ≤ 300) (hc : Cut M es)
    (hE : EdgeS w w.heap.size A es) (hS : IntS w w.heap.size D d) :
    Calls Try.prog 122 #[.agg #[.int .i64 (M : Int), .slice A es.length c], .slice D d.length cd, .int .i64 (q : Int)] w (GivesRed w M es d q) := by
  obtain ⟨i0, hi, hz0, hz1, hz2⟩ := info_parts intInfo
  obtain ⟨σ, hw⟩ := wt_exists hM hn hq hes hc
  have hmk := make_ints M (by omega)
  obtain ⟨bd, od, rfl, hbd, hcd⟩ := hS (by omega)
  have hdw : ∀ x ∈ d, -9223372036854775808 ≤ x ∧ x ≤ 9223372036854775807 := fun x hx => by
    obtain ⟨i, hi⟩ := List.getElem?_of_mem hx
    have := hdb i
    simp [List.getD, hi] at this
    omega
  have FI := fun (f : Nat → Int) (w' : World) (hf : ∀ u, u < M → -1000000000 ≤ f u ∧ f u ≤ 1000000000) (hb : Below w.heap.size w w') (hC : Chips w' (w.heap.size + 1) (chipsOf M f)) =>
    Lib.hid (show Calls Try.prog 146 #[.agg #[.int .i64 (M : Int), .slice A es.length c], .slice (some ⟨bd, od, none⟩) M cd, .slice (some ⟨w.heap.size + 1, 0, none⟩) M M] w' (fun e w'' => ∃ (A2 : Option Addr) (c2 : Nat), e = .returned (.slice A2 M c2) ∧ OwnI w'' w'.heap.size A2 (chipsOf M (Dv d es f)) ∧ Below w'.heap.size w' w'') from by
      have h := l04Fire_any (M : Int) M A (some ⟨bd, od, none⟩) (some ⟨w.heap.size + 1, 0, none⟩) c cd M es d (chipsOf M f) w' hM0 hM hn hd (chipsOf_len M f) hdw hes (hE.up_ hb) (hS.up_ hb) hC.ints
      rw [chipsOf_len, hd] at h
      refine h.mono ?_
      rintro e w'' ⟨A2, c2, rfl, ho, hbb⟩
      rw [fired_Dv hes hf] at ho
      exact ⟨A2, c2, by rw [firedB_len], ho, hbb⟩)
  have DBT := fun (f : Nat → Int) (A9 : Option Addr) (c9 : Nat) (w' : World) (B : Nat) (hI : OwnI w' B A9 (chipsOf M (Dv d es f))) =>
    Lib.hid (show Calls Try.prog 147 #[.slice A9 M c9, .int .i64 (q : Int)] w' (fun e w'' => e = .returned (.bool (hasDebt (chipsOf M (Dv d es f)) (q : Int))) ∧ w'' = w') from by
      have h := l05Debt_any A9 c9 w'.heap.size (chipsOf M (Dv d es f)) (q : Int) w' (by rw [chipsOf_len]; omega) hI.ints
      rw [chipsOf_len] at h
      exact h)
  have BRN := fun (f : Nat → Int) (A9 : Option Addr) (c9 : Nat) (w' : World) (B : Nat) (hb : Below w.heap.size w w') (hI : OwnI w' B A9 (chipsOf M (Dv d es f))) =>
    Lib.hid (show Calls Try.prog 126 #[.agg #[.int .i64 (M : Int), .slice A es.length c], .slice A9 M c9, .int .i64 (q : Int)] w' (GivesInts w' (burntL M es (chipsOf M (Dv d es f)) (q : Int))) from by
      have h := l05Burn_any A A9 c c9 M q es (chipsOf M (Dv d es f)) w' hM0 hM hq (chipsOf_len _ _) hn hes (hE.up_ hb) hI.ints
      rw [chipsOf_len] at h
      exact h)
  have HN := Lib.hid hn
  have HW := Lib.hid hw
  have HES := Lib.hid hes
  have HDB := Lib.hid hdb
  have HDL := Lib.hid hd
  rw [hd]
  have HST := Lib.hid (chips_start hd hdw)
  have hM1 : (0 : Int) ≤ (M : Int) := Int.natCast_nonneg _
  have hM7 : (M : Int) ≤ 6 := by omega
  have HCD := Lib.hid hcd
  -- the first world: box, script, an empty slice
  obtain ⟨W0, hW0⟩ : ∃ X : World, X = (w.alloc (.cells #[.int .i64 (M : Int), .slice A es.length c] 25)).alloc (.cells (intCells (List.replicate M 0)).toArray 3) := ⟨_, rfl⟩
  have hs0 : W0.heap.size = w.heap.size + 1 + 1 := by rw [hW0]; simp
  have g0 : GB w W0 (M : Int) A c es := by
    rw [hW0]
    exact (GB.start w (M : Int) A c es).next ((Below.refl _ _).alloc (Nat.le_refl _) _)
  have g1 : Chips W0 (w.heap.size + 1) (chipsOf M fun _ => 0) := by
    have h1 := Blk.new (w.alloc (.cells #[.int .i64 (M : Int), .slice A es.length c] 25)) 3 (intCells (List.replicate M 0)).toArray
    rw [← hW0, World.size_alloc, chips_zero] at h1
    exact Chips.of_blk h1
  have hO0 := own_emptyF W0 (w.heap.size + 1 + 1) (by omega) 3
  rw [hs0] at hO0
  have hbA : Below W0.heap.size W0 (W0.alloc (Obj.cells #[] 3)) := (Below.refl _ _).alloc (Nat.le_refl _) _
  rw [hW0] at hO0
  have HO0 := Lib.hid hO0
  have HG0 := Lib.hid (g0.next hbA)
  have HC0 := Lib.hid (g1.below hbA)
  have HW0 := Lib.hid hW0
  have HS0 := Lib.hid hs0
  clear hO0 hE hS hes hdb hd hcd hdw hw hW0 g0 g1 hbA hs0 hc
  go_enter Try.func122, Try.ntmps122
  go_wp2_with (at_builtin; refine wpList_append_own _ rfl _ _ 28 rfl (w.heap.size + 1 + 1) 3 i0 (.int .i64 0) 1 8 Try.underlying28 hi hz0 hz1 hz2 rfl (by decide) _ _ _ rfl HO0.out ⟨bd, od, none⟩ M cd (intCells d) rfl ?k0 ?k1 ?k2 ?k3 ?k4 ?k5 ?_)
  case k0 => simp [intCells, HDL.out]
  case k1 =>
    intro j u hj
    simp only [intCells, List.getElem?_map, Option.map_eq_some_iff] at hj
    obtain ⟨z, hz, rfl⟩ := hj
    rw [Addr.add_lit]
    have := HCD.out j z hz
    exact ((((Below.refl w.heap.size w).alloc (Nat.le_refl _) _).alloc (by simp) _).alloc (by simp; omega) _ |>.cell (p := ⟨bd, od + j, none⟩) hbd).trans this
  case k2 =>
    intro u hu
    simp only [intCells, List.mem_map] at hu
    obtain ⟨z, _, rfl⟩ := hu
    rfl
  case k3 => unfold maxLen; omega
  case k4 => omega
  case k5 => simp
  intro v' w1 hown hgrow _
  obtain ⟨g, cg, rfl, hg, hch⟩ := Chips.of_own (l := d) hown (by omega)
  have hR1 : RdW w w1 M A c es d (fun _ => 0) (some ⟨g, 0, none⟩) := by
    rw [← HW0.out] at hgrow
    have hs1 := HS0.out
    refine ⟨⟨HG0.out.box.grown hgrow (fun hq => ?_), HG0.out.old.grown hgrow HG0.out.old.size (fun q hq => ?_)⟩, ?_, ?_⟩
    · have := (HO0.out.lt _ hq).1
      omega
    · have := (HO0.out.lt _ hq).1
      omega
    · refine ⟨Nat.lt_of_lt_of_le HC0.out.lt hgrow.size, fun i z hz => ?_⟩
      have hk := hgrow.block (w.heap.size + 1) HC0.out.lt (fun hq => by
        have := (HO0.out.lt _ hq.symm).1
        omega)
      obtain ⟨a1, a2⟩ := HC0.out.cell i z hz
      exact ⟨(World.cell?_of_block (a := ⟨w.heap.size + 1, i, none⟩) hk).trans a1, (World.frozen?_of_block (a := ⟨w.heap.size + 1, i, none⟩) hk).trans a2⟩
    · rw [show chipsOf M (Dv d es fun _ => 0) = d from by
        rw [← HST.out]
        exact chipsOf_eq fun u _ => by rw [HST.out, Dv, termsF_zero (fun _ => rfl)]; omega]
      exact hch.own hg
  have HR1 := Lib.hid hR1
  have HP1 := Lib.hid (Ph1.start (M := M) (es := es) (d := d) (q := q) HDB.out)
  clear hR1 hown hgrow hch HO0 HG0 HC0 HW0 HS0 HST HCD hmk hi hz0 hz1 hz2
  go_wp2
  go_loopg [9, 10] 81435600 (fun gk s9 _ wr => ∃ (A9 : Option Addr) (c9 : Nat) (f : Nat → Int), s9 = .slice A9 M c9 ∧ Hid ((gk : Int) = 81435600 + sumV f M) ∧ Hid (Ph1 M es d q f) ∧ Hid (RdW w wr M A c es d f A9))
  case atStart => exact ⟨some ⟨g, 0, none⟩, cg, fun _ => 0, by simp, Lib.hid (by rw [sumV_const]; simp), HP1, HR1⟩
  case round =>
    obtain ⟨A9, c9, f, rfl, HG, HP, HR⟩ := hrel
    clear HR1 HP1
    have HF := Lib.hid (HP.out.wide HW.out hM HES.out HDB.out)
    have HX := DBT f A9 c9 wr _ HR.out.out
    cases hdt : hasDebt (chipsOf M (Dv d es f)) (q : Int) with
    | true =>
      rw [hdt] at HX
      have HDT := Lib.hid hdt
      clear hdt
      obtain ⟨gx, rfl⟩ : ∃ gx : Nat, gx = gk := ⟨_, rfl⟩
      obtain ⟨wo, rfl⟩ : ∃ wo : World, wo = wr := ⟨_, rfl⟩
      go_wp2_with fail
      refine HX.out.mono ?_
      rintro e w2 ⟨rfl, rfl⟩
      go_wp2
      go_loopg [9, 10, 24] M (fun gj s9 _ s24 wx => ∃ (k : Nat) (A8 : Option Addr) (c8 : Nat) (f2 : Nat → Int), k ≤ M ∧ gj + k = M ∧ s24 = .int .i64 k ∧ s9 = .slice A8 M c8 ∧ Hid ((f2 = f ∧ ∀ j, j < k → debtAt (chipsOf M (Dv d es f)) (q : Int) j = false) ∨ sumV f2 M < sumV f M) ∧ Hid (Ph1 M es d q f2) ∧ Hid (RdW w wx M A c es d f2 A8))
      case atStart => exact ⟨0, A9, c9, f, Nat.zero_le _, by omega, rfl, rfl, Lib.hid (.inl ⟨rfl, fun j hj => absurd hj (by omega)⟩), HP, HR⟩
      case round =>
        obtain ⟨k, A8, c8, f2, hk, hgk, rfl, rfl, HJ, HP2, HR2⟩ := hrel
        have HF2 := Lib.hid (HP2.out.wide HW.out hM HES.out HDB.out)
        have HJL := Lib.hid (show sumV f2 M ≤ sumV f M from by
          rcases HJ.out with ⟨rfl, _⟩ | h
          · exact Int.le_refl _
          · omega)
        clear HX
        by_cases hlt : k < M
        · have hi0 : (0 : Int) ≤ (k : Int) := Int.natCast_nonneg _
          have hi1 : (k : Int) < (M : Int) := by omega
          obtain ⟨b8, o8, hA8, hb8, hl8, hc8⟩ := HR2.out.out (by rw [chipsOf_len]; exact hM0)
          have hx := (hc8 k _ (chipsOf_at _ hlt)).1
          have hxb := Dv_bound (M := M) (f := f2) (d := d) HN.out (fun u => by have := HDB.out u; omega) HES.out HF2.out k
          rw [wrap64_of (by omega) (by omega)] at hx
          obtain ⟨hs1, hs2⟩ := chips_cell HR2.out.scr hlt (HF2.out k hlt)
          have hyb := HP2.out.low HW.out hM HES.out HDB.out k hlt
          have HDK := Lib.hid (show debtAt (chipsOf M (Dv d es f2)) (q : Int) k = (!decide ((k : Int) = (q : Int)) && decide (Dv d es f2 k < 0)) from debt_Dv HN.out HDB.out HES.out HF2.out hlt)
          obtain ⟨x, hxx⟩ : ∃ x, x = Dv d es f2 k := ⟨_, rfl⟩
          obtain ⟨y, hyy⟩ : ∃ y, y = f2 k := ⟨_, rfl⟩
          rw [← hxx] at hx hxb HDK
          rw [← hyy] at hs1 hyb
          have HXX := Lib.hid hxx
          have HYY := Lib.hid hyy
          subst hA8
          clear hc8 hxx hyy hb8 hl8
          by_cases hkq : k = q
          · have t1 : ((k : Int) != (q : Int)) = false := by simp [hkq]
            have HJ2 : Hid ((f2 = f ∧ ∀ j, j < k + 1 → debtAt (chipsOf M (Dv d es f)) (q : Int) j = false) ∨ sumV f2 M < sumV f M) := Lib.hid (by
              rcases HJ.out with ⟨rfl, h⟩ | h
              · refine .inl ⟨rfl, fun j hj => ?_⟩
                by_cases e : j = k
                · rw [e, HDK.out]; simp [hkq]
                · exact h j (by omega)
              · exact .inr h)
            clear hkq
            go_wp2
            go_roundg (gk - 1)
            case measure => omega
            case rel => exact ⟨k + 1, _, c8, f2, by omega, by omega, by go_num, rfl, HJ2, HP2, HR2⟩
          · have t1 : ((k : Int) != (q : Int)) = true := by simp; omega
            by_cases hx0 : x < 0
            · have t2 : decide (x < 0) = true := decide_eq_true hx0
              have HP3 := Lib.hid (HP2.out.one HN.out HES.out hkq (by rw [← HXX.out]; exact hx0))
              have hcs := chips_store HR2.out.scr hlt (-1) (by rw [← HYY.out]; omega)
              rw [← HYY.out, show y + -1 = y - 1 by omega] at hcs
              have HF3 := Lib.hid (HP3.out.wide HW.out hM HES.out HDB.out)
              have gb3 := HR2.out.box.store k (.int .i64 (y - 1))
              have HFI := FI _ _ HF3.out gb3.old hcs
              have HS3 := Lib.hid (show sumV (addAt f2 k (-1)) M < sumV f M from by
                rw [sumV_addAt, if_pos hlt]
                have := HJL.out
                omega)
              have hc0 := HR2.out.box.c0
              have hc1 := HR2.out.box.c1
              have HGB := Lib.hid gb3
              have HCS := Lib.hid hcs
              have hd0 := gb3.c0
              have hd1 := gb3.c1
              clear hkq hx0 hcs gb3
              go_wp2_with fail
              refine HFI.out.mono ?_
              rintro e w3 ⟨A3, c3, rfl, ho3, hb3⟩
              have HR3 := Lib.hid (RdW.fired HGB.out HCS.out hb3 ho3)
              clear ho3 hb3 hs1 hs2 hx HFI HGB HCS hc0 hc1 hd0 hd1
              go_wp2
              go_roundg (gk - 1)
              case measure => omega
              case rel => exact ⟨k + 1, A3, c3, addAt f2 k (-1), by omega, by omega, by go_num, rfl, Lib.hid (.inr HS3.out), HP3, HR3⟩
            · have t2 : decide (x < 0) = false := decide_eq_false hx0
              have HJ2 : Hid ((f2 = f ∧ ∀ j, j < k + 1 → debtAt (chipsOf M (Dv d es f)) (q : Int) j = false) ∨ sumV f2 M < sumV f M) := Lib.hid (by
                rcases HJ.out with ⟨rfl, h⟩ | h
                · refine .inl ⟨rfl, fun j hj => ?_⟩
                  by_cases e : j = k
                  · rw [e, HDK.out]; simp [t2]
                  · exact h j (by omega)
                · exact .inr h)
              clear hkq hx0
              go_wp2
              go_roundg (gk - 1)
              case measure => omega
              case rel => exact ⟨k + 1, _, c8, f2, by omega, by omega, by go_num, rfl, HJ2, HP2, HR2⟩
        · have HLT := Lib.hid (show sumV f2 M < sumV f M from by
            rcases HJ.out with ⟨rfl, h⟩ | h
            · have h1 := HDT.out
              rw [hasDebt, List.any_eq_true, chipsOf_len] at h1
              obtain ⟨j, hj, h2⟩ := h1
              rw [h j (by have := List.mem_range.1 hj; omega)] at h2
              cases h2
            · exact h)
          have HLO := Lib.hid (HP2.out.sum HW.out hM HES.out HDB.out)
          go_wp2
          go_roundg (81435600 + sumV f2 M).toNat
          case measure =>
            have h1 := HG.out
            have h2 := HLT.out
            have h3 := HLO.out
            omega
          case rel => exact ⟨A8, c8, f2, rfl, Lib.hid (by have := HLO.out; omega), HP2, HR2⟩
    | false =>
      rw [hdt] at HX
      have HP2 := Lib.hid (HP.out.end_ HW.out hM HES.out HDB.out (noDebt HN.out HDB.out HES.out HF.out hdt))
      have HSM := Lib.hid (HP2.out.sum HW.out hM HES.out)
      clear hdt HP HF
      go_wp2_with fail
      refine HX.out.mono ?_
      rintro e w2 ⟨rfl, rfl⟩
      clear HX HG
      go_wp2
      go_loopg [9, 11, 12] (40717800 - sumV f M).toNat (fun gk s9 _ _ wr => ∃ (A9 : Option Addr) (c9 : Nat) (f : Nat → Int), s9 = .slice A9 M c9 ∧ Hid ((gk : Int) = 40717800 - sumV f M) ∧ Hid (Ph2 M es d q σ f) ∧ Hid (RdW w wr M A c es d f A9))
      case atStart => exact ⟨A9, c9, f, rfl, Lib.hid (by have := HSM.out; omega), HP2, HR⟩
      case round =>
        clear HP2 HSM HR
        obtain ⟨A9, c9, f, rfl, HG, HP, HR⟩ := hrel
        have HF := Lib.hid (HP.out.high HW.out hM HES.out)
        have HB := BRN f A9 c9 wr _ HR.out.box.old HR.out.out
        have hbt := burntL_all (M := M) (es := es) (d := chipsOf M (Dv d es f)) (q := (q : Int)) (by omega)
        have HPN := Lib.hid (HP.out.one HW.out hM HN.out hq HDB.out HES.out)
        obtain ⟨bs, hbs⟩ : ∃ x, x = burntL M es (chipsOf M (Dv d es f)) (q : Int) := ⟨_, rfl⟩
        rw [← hbs] at HB hbt HPN
        have HBU := Lib.hid hbt.1
        have hbl := hbt.1.len
        have HBS := Lib.hid hbs
        have c0 := HR.out.box.c0
        have c1 := HR.out.box.c1
        obtain ⟨gx, rfl⟩ : ∃ gx : Nat, gx = gk := ⟨_, rfl⟩
        obtain ⟨wo, rfl⟩ : ∃ wo : World, wo = wr := ⟨_, rfl⟩
        clear hbt hbs
        go_wp2_with fail
        refine HB.out.mono ?_
        rintro e w2 ⟨Ab, cb, rfl, hob, hb2⟩
        have HR2 := Lib.hid (HR.out.next hb2)
        have HOB := Lib.hid (hob.mono HR.out.size)
        clear hob hb2 HB c0 c1
        have c0 := HR2.out.box.c0
        by_cases hl : bs.length = M
        · have t1 : ((bs.length : Int) == (M : Int)) = true := by simp [hl]
          have HIR := Lib.hid (HP.out.red HW.out hM HES.out (by rw [← HBS.out]; exact hl))
          clear hl
          go_wp2
          go_ret2
          exact ⟨A9, some ⟨w.heap.size + 1, 0, none⟩, c9, M, f, rfl, HIR.out, HR2.out.out.mono (by omega), HR2.out.scr.own (by omega), HR2.out.box.old⟩
        · have t1 : ((bs.length : Int) == (M : Int)) = false := by rw [beq_eq_false_iff_ne]; omega
          have HMO := Lib.hid (Ph2.more HBU.out hl)
          clear hl
          go_wp2
          go_loopg [12] M (fun gj s12 wx => ∃ k : Nat, k ≤ M ∧ gj + k = M ∧ s12 = .int .i64 k ∧ Hid (GB w wx (M : Int) A c es) ∧ Hid (Chips wx (w.heap.size + 1) (chipsOf M (addSet f (upU bs k) 1))) ∧ Hid (OwnI wx (w.heap.size + 1 + 1) Ab bs))
          case atStart => exact ⟨0, Nat.zero_le _, by omega, rfl, Lib.hid HR2.out.box, Lib.hid (by rw [upU_zero]; exact HR2.out.scr), HOB⟩
          case round =>
            obtain ⟨k, hk, hgk, rfl, HGB, HCS, HOB2⟩ := hrel
            clear c0
            have c0 := HGB.out.c0
            by_cases hlt : k < M
            · have hi0 : (0 : Int) ≤ (k : Int) := Int.natCast_nonneg _
              have hi1 : (k : Int) < (M : Int) := by omega
              have HL := Lib.hid (l02Has_any Ab cb bs (k : Int) wr (by omega) HOB2.out.ints)
              rw [inL_contains] at HL
              cases hc : inL bs (k : Int) with
              | true =>
                rw [hc] at HL
                have HC2 := HCS.out
                rw [← upU_in f hc] at HC2
                have HC3 := Lib.hid HC2
                clear hc HC2
                go_wp2_with fail
                refine HL.out.mono ?_
                rintro e w3 ⟨rfl, rfl⟩
                go_wp2
                go_roundg (gk - 1)
                case measure => omega
                case rel => exact ⟨k + 1, by omega, by omega, by go_num, HGB, HC3, HOB2⟩
              | false =>
                rw [hc] at HL
                have hy0 := HF.out k hlt
                have hat : addSet f (upU bs k) 1 k = f k := upU_at f
                obtain ⟨hs1, hs2⟩ := chips_cell HCS.out hlt (by rw [hat]; exact hy0)
                have hcs := chips_store HCS.out hlt 1 (by
                  rw [hat]
                  have h1 := (HPN.out.high HW.out hM HES.out k hlt).2
                  unfold addSet upU at h1
                  rw [if_pos (by simp [hc]; omega)] at h1
                  omega)
                rw [← upU_out f hc, hat] at hcs
                rw [hat] at hs1
                obtain ⟨y, hyy⟩ : ∃ y, y = f k := ⟨_, rfl⟩
                rw [← hyy] at hs1 hcs hy0
                have HC3 := Lib.hid hcs
                have HG3 := Lib.hid (HGB.out.store k (.int .i64 (y + 1)))
                have hmv : Moves (w.heap.size + 1) (w.heap.size + 1 + 1) wr (wr.setCell ⟨w.heap.size + 1, k, none⟩ (.int .i64 (y + 1))) := (Moves.refl _ _ _).set_ k _
                have HO3 := Lib.hid (HOB2.out.moves hmv (Nat.le_refl _))
                clear hc hat hcs hyy hmv
                go_wp2_with fail
                refine HL.out.mono ?_
                rintro e w3 ⟨rfl, rfl⟩
                go_wp2
                go_roundg (gk - 1)
                case measure => omega
                case rel => exact ⟨k + 1, by omega, by omega, by go_num, HG3, HC3, HO3⟩
            · have hkM : k = M := by omega
              have HC2 := HCS.out
              rw [hkM] at HC2
              have HC3 := Lib.hid HC2
              have HF3 := Lib.hid (HPN.out.high HW.out hM HES.out)
              have HFI := FI _ _ HF3.out HGB.out.old HC3.out
              have HS3 := Lib.hid (addSet_sum (M := M) (f := f) (U := upU bs M) (t := 1) (by omega) HMO.out)
              have HS4 := Lib.hid (HPN.out.sum HW.out hM HES.out)
              have c1 := HGB.out.c1
              clear HC2 hkM
              go_wp2_with fail
              refine HFI.out.mono ?_
              rintro e w3 ⟨A3, c3, rfl, ho3, hb3⟩
              have HR3 := Lib.hid (RdW.fired HGB.out HC3.out hb3 ho3)
              clear ho3 hb3 c0 c1
              go_wp2
              go_roundg (40717800 - sumV (addSet f (upU bs M) 1) M).toNat
              case measure =>
                have h1 := HG.out
                have h2 := HS3.out
                have h3 := HS4.out
                omega
              case rel => exact ⟨A3, c3, _, rfl, Lib.hid (by have := HS4.out; omega), HPN, HR3⟩
end Go.Proofs.Ytndncmjhpbjcoaa

/- The program's reducing: valence, fire, payDebts. -/
namespace Go.Proofs.Ytndncmjhpbjcoaa
open Go.RowKit

theorem nets_neg {v : Nat} : ∀ {es : List (Int × Int)}, (∀ e ∈ es, e.1 < e.2) → (∃ e ∈ es, (v : Int) = e.1 ∨ (v : Int) = e.2) → nets (v : Int) v es ≤ -1
  | [], _, ⟨e, he, _⟩ => by simp at he
  | e :: l, h, ⟨x, hx, hv⟩ => by
    have h1 := h e (by simp)
    have h2 := (nets_self v l (fun x hx => h x (by simp [hx]))).2
    have key : net (v : Int) v e ≤ 0 := by
      unfold net ind
      repeat' split
      all_goals omega
    rw [List.mem_cons] at hx
    rw [nets]
    rcases hx with rfl | hx
    · have : net (v : Int) v x ≤ -1 := by
        unfold net ind
        repeat' split
        all_goals omega
      omega
    · have ih := nets_neg (es := l) (fun x hx => h x (by simp [hx])) ⟨x, hx, hv⟩
      omega
theorem val_pos {M : Nat} {es : List (Int × Int)} {v q : Nat} (hc : Cut M es) (hes : ∀ e ∈ es, 0 ≤ e.1 ∧ e.1 < e.2 ∧ e.2 < (M : Int)) (hv : v < M) (hq : q < M) (hne : v ≠ q) : nets (v : Int) v es ≤ -1 := by
  refine nets_neg (fun e he => (hes e he).2.1) ?_
  obtain ⟨e, he, h⟩ := hc (fun x => decide (x = (v : Int))) ⟨(v : Int), by omega, by omega, by simp⟩ ⟨(q : Int), by omega, by omega, by simp; omega⟩
  refine ⟨e, he, ?_⟩
  by_cases h1 : e.1 = (v : Int)
  · exact .inl h1.symm
  · by_cases h2 : e.2 = (v : Int)
    · exact .inr h2.symm
    · simp [h1, h2] at h
theorem net_self {v : Nat} {e : Int × Int} (h : e.1 < e.2) : net (v : Int) v e = if (v : Int) = e.1 ∨ (v : Int) = e.2 then -1 else 0 := by
  unfold net ind
  repeat' split
  all_goals omega
set_option maxRecDepth 100000 in
set_option maxHeartbeats 2000000 in
theorem valence_any (pb cA v B : Nat) (A : Option Addr) (G : Value) (es : List (Int × Int)) (w : World) (hBw : B ≤ w.heap.size) (hn : es.length ≤ 12) (hes : ∀ e ∈ es, e.1 < e.2) (hB : Blk w pb 75 #[.slice A es.length cA, G]) (hE : EdgeS w B A es) :
    Calls Try.prog 102 #[.pointer (some ⟨pb, 0, none⟩), .int .i64 (v : Int)] w fun e w' => e = .returned (.int .i64 (-nets (v : Int) v es)) ∧ Below w.heap.size w w' := by
  have q0 : w.cell? ⟨pb, 0, none⟩ = some (.slice A es.length cA) := by rw [hB.cell]; rfl
  have HE := Lib.hid hE
  have HES := Lib.hid hes
  clear hE hes hB
  go_enter Try.func102, Try.ntmps102
  go_wp2
  go_loopw [5, 13] (fun n i wr => ∃ k : Nat, k ≤ es.length ∧ i = .int .i64 k ∧ n = .int .i64 (-nets (v : Int) v (es.take k)) ∧ Below w.heap.size w wr) (fun _ i _ => es.length - (intOf i).toNat)
  case atStart => exact ⟨0, Nat.zero_le _, rfl, by simp [nets], Below.refl _ _⟩
  case round =>
    obtain ⟨k, hk, rfl, rfl, hb⟩ := hrel
    have HB := Lib.hid hb
    have hbw := hb.size
    clear hb q0
    by_cases hlt : k < es.length
    · obtain ⟨b1, o1, e, rfl, hb1, he, hc0, hc1⟩ := (HE.out.keep (fun p hp => HB.out.cell (by omega)) (Nat.le_refl _)).at_ hlt
      have hlt2 := HES.out e (List.mem_of_getElem? he)
      have hi0 : (0 : Int) ≤ (k : Int) := Int.natCast_nonneg _
      have hi1 : (k : Int) < (es.length : Int) := by omega
      have hns := nets_self v (es.take k) (fun x hx => HES.out x (List.mem_of_mem_take hx))
      have hnk : (es.take k).length ≤ 12 := by rw [List.length_take]; omega
      have HN := Lib.hid ((nets_snoc (v : Int) v he).trans (by rw [net_self hlt2]))
      have HBA := Lib.hid (HB.out.alloc HB.out.size (Obj.cells #[.int .i64 e.1, .int .i64 e.2] 122))
      obtain ⟨x, hx⟩ : ∃ x, x = nets (v : Int) v (es.take k) := ⟨_, rfl⟩
      rw [← hx] at hns HN ⊢
      have hx0 : -12 ≤ x := by omega
      have hx1 : x ≤ 0 := hns.2
      have hx2 : 0 ≤ -x := by omega
      have hx3 : -x ≤ 12 := by omega
      clear hx he hns hnk hlt2
      by_cases h1 : e.1 = (v : Int)
      · have t1 : (e.1 == (v : Int)) = true := by simp [h1]
        have HN2 := Lib.hid (HN.out.trans (by rw [if_pos (.inl h1.symm)]))
        clear h1
        go_wp2
        exact ⟨⟨k + 1, by omega, by go_num, by rw [HN2.out]; congr 1; omega, HBA.out⟩, by simp [intOf]; omega⟩
      · have t1 : (e.1 == (v : Int)) = false := by simp [h1]
        by_cases h2 : e.2 = (v : Int)
        · have t2 : (e.2 == (v : Int)) = true := by simp [h2]
          have HN2 := Lib.hid (HN.out.trans (by rw [if_pos (.inr h2.symm)]))
          clear h1 h2
          go_wp2
          exact ⟨⟨k + 1, by omega, by go_num, by rw [HN2.out]; congr 1; omega, HBA.out⟩, by simp [intOf]; omega⟩
        · have t2 : (e.2 == (v : Int)) = false := by simp [h2]
          have HN2 := Lib.hid (HN.out.trans (by rw [if_neg (by omega)]))
          clear h1 h2
          go_wp2
          exact ⟨⟨k + 1, by omega, by go_num, by rw [HN2.out]; congr 1; omega, HBA.out⟩, by simp [intOf]; omega⟩
    · have HQ := Lib.hid (show es.take k = es from List.take_of_length_le (by omega))
      rw [HQ.out]
      go_wp2
      go_ret
      exact ⟨rfl, HB.out⟩

structure RdI (wr : World) (B pr pb g cg gs M q : Nat) (A : Option Addr) (cA : Nat) (es : List (Int × Int)) (d : List Int) (f : Nat → Int) : Prop where
  red : Blk wr pr 117 #[.pointer (some ⟨pb, 0, none⟩), .int .i64 (q : Int), .slice (some ⟨gs, 0, none⟩) M M]
  brd : Blk wr pb 75 #[.slice A es.length cA, .slice (some ⟨g, 0, none⟩) M cg]
  chips : Chips wr g (chipsOf M (Dv d es f))
  scr : Chips wr gs (chipsOf M f)
structure RdN (B pr pb g gs : Nat) : Prop where
  n1 : B ≤ g
  n2 : B ≤ gs
  n3 : B ≤ pb
  n4 : B ≤ pr
  e1 : g ≠ gs
  e2 : g ≠ pb
  e3 : g ≠ pr
  e4 : gs ≠ pb
  e5 : gs ≠ pr
theorem RdI.below {wr w2 : World} {B pr pb g cg gs M q : Nat} {A : Option Addr} {cA : Nat} {es : List (Int × Int)} {d : List Int} {f : Nat → Int} (h : RdI wr B pr pb g cg gs M q A cA es d f) (hb : Below wr.heap.size wr w2) : RdI w2 B pr pb g cg gs M q A cA es d f :=
  ⟨h.red.below hb h.red.lt, h.brd.below hb h.brd.lt, h.chips.below hb, h.scr.below hb⟩
set_option maxRecDepth 100000 in
set_option maxHeartbeats 2000000 in
theorem fireR_any (B pr pb g cg gs M q v : Nat) (A : Option Addr) (cA : Nat) (es : List (Int × Int)) (d : List Int) (f : Nat → Int) (t : Int) (w : World) (hBw : B ≤ w.heap.size) (hv : v < M) (hn : es.length ≤ 12) (hes : ∀ e ∈ es, 0 ≤ e.1 ∧ e.1 < e.2 ∧ e.2 < (M : Int)) (hE : EdgeS w B A es) (hN : RdN B pr pb g gs) (hR : RdI w B pr pb g cg gs M q A cA es d f) :
    Calls Try.prog 157 #[.pointer (some ⟨pr, 0, none⟩), .int .i64 (v : Int), .int .i64 t] w fun e w' => e = .returned (.tuple #[]) ∧ RdI w' B pr pb g cg gs M q A cA es d (addAt f v t) ∧ Below B w w' ∧ (∀ i, i < w.heap.size → i ≠ g → i ≠ gs → w'.heap[i]? = w.heap[i]?) := by
  have q2 : w.cell? ⟨pr, 2, none⟩ = some (.slice (some ⟨gs, 0, none⟩) M M) := by rw [hR.red.cell]; rfl
  have q0 : w.cell? ⟨pr, 0, none⟩ = some (.pointer (some ⟨pb, 0, none⟩)) := by rw [hR.red.cell]; rfl
  obtain ⟨d0, f0⟩ := hR.scr.cell v _ (chipsOf_at f hv)
  have hC1 := hR.scr.set_ (a := v) (by rw [chipsOf_len]; exact hv) (wrap64 (wrap64 (f v) + t))
  rw [chipsOf_set M f v _ t (wrap64_addL _ _)] at hC1
  have hm1 : Moves gs (gs + 1) w (w.setCell ⟨gs, v, none⟩ (.int .i64 (wrap64 (wrap64 (f v) + t)))) := (Moves.refl _ _ _).set_ v _
  have hN1 := hN.e1
  have hN2 := hN.e2
  have hN3 := hN.e3
  have hN4 := hN.e4
  have hN5 := hN.e5
  have hr1 := hR.red.moves hm1 (by omega)
  have hb1 := hR.brd.moves hm1 (by omega)
  have hc1 := hR.chips.moves hm1 (by omega)
  have hbl1 := hm1.below hN.n2 hBw
  have hsz : B ≤ (w.setCell ⟨gs, v, none⟩ (.int .i64 (wrap64 (wrap64 (f v) + t)))).heap.size := by simp [World.setCell]; exact hBw
  have hE1 := hE.keep (fun p hp => hbl1.cell (by omega)) (Nat.le_refl _)
  have FR := Lib.hid (fire_any pb g M cg cA B A es (Dv d es f) (v : Int) t _ (Ne.symm hN2) hN.n1 hsz hn hes hb1 hc1 hE1)
  have HF : Hid (chipsOf M (fireF (Dv d es f) (v : Int) t es) = chipsOf M (Dv d es (addAt f v t))) := Lib.hid (chipsOf_eq fun u _ => by rw [Dv_addAt d f v t u (fun e he => ⟨(hes e he).1, (hes e he).2.1⟩), fireF])
  have p0 : (w.setCell ⟨gs, v, none⟩ (.int .i64 (wrap64 (wrap64 (f v) + t)))).cell? ⟨pr, 0, none⟩ = some (.pointer (some ⟨pb, 0, none⟩)) := by rw [hr1.cell]; rfl
  have hv0 : (0 : Int) ≤ (v : Int) := Int.natCast_nonneg _
  have hv1 : (v : Int) < (M : Int) := by omega
  have HR1 := Lib.hid hr1
  have HB1 := Lib.hid hb1
  have HC1 := Lib.hid hC1
  have HBL := Lib.hid hbl1
  have HSZ := Lib.hid hsz
  have HNN := Lib.hid hN
  have HMV := Lib.hid hm1
  clear hr1 hb1 hc1 hC1 hbl1 hsz hm1 hE1 hE hR hN hN1 hN2 hN3 hN4 hN5 hes q0
  have hn1 := HNN.out.e5
  go_enter Try.func157, Try.ntmps157
  go_wp2_with fail
  refine FR.out.mono ?_
  rintro e w2 ⟨rfl, hc2, hm2⟩
  rw [HF.out] at hc2
  have a1 := HNN.out.e1
  have a2 := HNN.out.e2
  have a3 := HNN.out.e3
  have HR2 := Lib.hid (show RdI w2 B pr pb g cg gs M q A cA es d (addAt f v t) from ⟨HR1.out.moves hm2 (by omega), HB1.out.moves hm2 (by omega), hc2, HC1.out.moves hm2 (by omega)⟩)
  have HB2 := Lib.hid (belowMoves HBL.out hm2 HNN.out.n1 HSZ.out)
  have HK2 := Lib.hid (show ∀ i, i < w.heap.size → i ≠ g → i ≠ gs → w2.heap[i]? = w.heap[i]? from fun i hi h1 h2 => (hm2.block i (Nat.lt_of_lt_of_le hi HMV.out.size) (by omega)).trans (HMV.out.block i hi (by omega)))
  clear hc2 hm2 a1 a2 a3
  go_wp2
  go_end0
  exact ⟨rfl, HR2.out, HB2.out, HK2.out⟩
end Go.Proofs.Ytndncmjhpbjcoaa

/- The program's payDebts. -/
namespace Go.Proofs.Ytndncmjhpbjcoaa
open Go.RowKit

theorem borrow_k {x V : Int} (hx : x < 0) (hx2 : -1000000000000 ≤ x) (hV : 1 ≤ V) (hV2 : V ≤ 12) : 1 ≤ (-x + V - 1).tdiv V ∧ (-x + V - 1).tdiv V ≤ 2000000000000 ∧ x + (-x + V - 1).tdiv V * V ≤ 300 := by
  have h0 : 0 ≤ -x + V - 1 := by omega
  rw [Int.tdiv_eq_ediv_of_nonneg h0]
  have h1 := Int.ediv_mul_le (-x + V - 1) (show V ≠ 0 by omega)
  have h2 : 1 ≤ (-x + V - 1) / V := by
    rw [Int.le_ediv_iff_mul_le (by omega)]
    omega
  have h3 : (-x + V - 1) / V ≤ (-x + V - 1) := Int.ediv_le_self _ h0
  omega
set_option maxRecDepth 100000 in
set_option maxHeartbeats 4000000 in
theorem payDebts_any (B pr pb g cg gs M q : Nat) (A : Option Addr) (cA : Nat) (es : List (Int × Int)) (d : List Int) (w : World) (hM : M ≤ 6) (hq : q < M) (hn : es.length ≤ 12) (hes : ∀ e ∈ es, 0 ≤ e.1 ∧ e.1 < e.2 ∧ e.2 < (M : Int)) (hdb : ∀ u, -300 ≤ d.getD u 0 ∧ d.getD u 0 ≤ 300) (hc : Cut M es)
    (hBw : B ≤ w.heap.size) (hE : EdgeS w B A es) (hN : RdN B pr pb g gs) (hR : RdI w B pr pb g cg gs M q A cA es d (fun _ => 0)) :
    Calls Try.prog 137 #[.pointer (some ⟨pr, 0, none⟩)] w fun e w' => e = .returned (.tuple #[]) ∧ ∃ f, Ph1 M es d q f ∧ hasDebt (chipsOf M (Dv d es f)) (q : Int) = false ∧ RdI w' B pr pb g cg gs M q A cA es d f ∧ Below B w w' := by
  obtain ⟨σ, hw⟩ := wt_exists hM hn hq hes hc
  have HN := Lib.hid hn
  have HW := Lib.hid hw
  have HES := Lib.hid hes
  have HDB := Lib.hid hdb
  have HCU := Lib.hid hc
  have HE := Lib.hid hE
  have HNN := Lib.hid hN
  have HR := Lib.hid hR
  have HP := Lib.hid (Ph1.start (M := M) (es := es) (d := d) (q := q) hdb)
  have hBz := hBw
  have hq0 : (0 : Int) ≤ (q : Int) := Int.natCast_nonneg _
  clear hw hes hdb hc hE hN hR
  go_enter Try.func137, Try.ntmps137
  go_wp2
  go_loopg [2, 3, 4] 81435600 (fun gk _ _ _ wr => ∃ (f : Nat → Int), Hid ((gk : Int) = 81435600 + sumV f M) ∧ Hid (Ph1 M es d q f) ∧ Hid (RdI wr B pr pb g cg gs M q A cA es d f) ∧ Hid (Below B w wr) ∧ Hid (B ≤ wr.heap.size))
  case atStart => exact ⟨fun _ => 0, Lib.hid (by rw [sumV_const]; simp), HP, HR, Lib.hid (Below.refl _ _), Lib.hid hBz⟩
  case round =>
    clear HP HR
    obtain ⟨f, HG, HP, HR, HBL, HSZ⟩ := hrel
    have HF := Lib.hid (HP.out.wide HW.out hM HES.out HDB.out)
    have HX := fun (w' : World) (hb : Below wr.heap.size wr w') => Lib.hid (show Calls Try.prog 156 #[.slice (some ⟨g, 0, none⟩) M cg, .int .i64 (q : Int)] w' (fun e w'' => e = .returned (.int .i64 (debtor (chipsOf M (Dv d es f)) (q : Int))) ∧ w'' = w') from by
      have h := debtorBeside_any (some ⟨g, 0, none⟩) cg w'.heap.size (chipsOf M (Dv d es f)) (q : Int) w' (by rw [chipsOf_len]; omega) (HR.out.chips.below hb).ints
      rw [chipsOf_len] at h
      exact h)
    have r0 : wr.cell? ⟨pr, 0, none⟩ = some (.pointer (some ⟨pb, 0, none⟩)) := by rw [HR.out.red.cell]; rfl
    have r1 : wr.cell? ⟨pr, 1, none⟩ = some (.int .i64 (q : Int)) := by rw [HR.out.red.cell]; rfl
    have r2 : wr.cell? ⟨pb, 1, none⟩ = some (.slice (some ⟨g, 0, none⟩) M cg) := by rw [HR.out.brd.cell]; rfl
    rcases debtor_cases (chipsOf M (Dv d es f)) (q : Int) with ⟨h1, h2, _⟩ | ⟨v, hv, h1, h2, h3, _⟩
    · rw [h1] at HX
      have HH := Lib.hid h2
      clear h1 h2
      go_wp2_with fail
      go_quiet (first | (go_at_call 156; exact Calls.quiet_of_same (HX _ (below_drewN (Below.refl _ _) _)).out))
      go_wp2
      refine bodyPost_ret (results_none rfl _ _ _) rfl ?_
      exact ⟨rfl, f, HP.out, HH.out, HR.out.below (below_drewN (Below.refl _ _) _), below_drewN HBL.out _⟩
    · rw [chipsOf_len] at hv
      rw [h1] at HX
      rw [debt_Dv HN.out HDB.out HES.out HF.out hv] at h3
      simp only [Bool.and_eq_true, Bool.not_eq_true', decide_eq_true_eq, decide_eq_false_iff_not] at h3
      obtain ⟨h4, hx⟩ := h3
      have hvq : v ≠ q := by omega
      have hxb := Dv_bound (M := M) (f := f) (d := d) HN.out (fun u => by have := HDB.out u; omega) HES.out HF.out v
      have hVs := nets_self v es (fun e he => (HES.out e he).2.1)
      have hVp := val_pos HCU.out HES.out hv hq hvq
      have hxc := (HR.out.chips.cell v _ (chipsOf_at _ hv)).1
      rw [wrap64_of (by omega) (by omega)] at hxc
      have hk := borrow_k (x := Dv d es f v) (V := -nets (v : Int) v es) hx hxb.1 (by omega) (by have := HN.out; omega)
      have HP2 := Lib.hid (HP.out.step HES.out (v := v) (k := (-Dv d es f v + -nets (v : Int) v es - 1).tdiv (-nets (v : Int) v es)) hvq (by omega) hk.2.2)
      have VAL := fun (w' : World) (hb : Below wr.heap.size wr w') => Lib.hid (valence_any pb cA v B A (.slice (some ⟨g, 0, none⟩) M cg) es w' (Nat.le_trans HSZ.out hb.size) HN.out (fun e he => (HES.out e he).2.1) (HR.out.brd.below hb HR.out.brd.lt) (HE.out.keep (fun p hp => (HBL.out.trans (hb.mono HSZ.out)).cell (by omega)) (Nat.le_refl _)))
      have FIR := fun (t : Int) (w' : World) (hb : Below wr.heap.size wr w') => Lib.hid (fireR_any B pr pb g cg gs M q v A cA es d f t w' (Nat.le_trans HSZ.out hb.size) hv HN.out HES.out (HE.out.keep (fun p hp => (HBL.out.trans (hb.mono HSZ.out)).cell (by omega)) (Nat.le_refl _)) HNN.out (HR.out.below hb))
      obtain ⟨x, hxx⟩ : ∃ x, x = Dv d es f v := ⟨_, rfl⟩
      obtain ⟨V, hVV⟩ : ∃ V, V = -nets (v : Int) v es := ⟨_, rfl⟩
      rw [← hVV] at VAL hk HP2
      rw [← hxx] at hx hxb hxc hk HP2
      have hV1 : 1 ≤ V := by omega
      have hV2 : V ≤ 12 := by have := HN.out; omega
      have HS2 := Lib.hid (show sumV (addAt f v (-(-x + V - 1).tdiv V)) M = sumV f M + -(-x + V - 1).tdiv V from by rw [sumV_addAt, if_pos hv])
      obtain ⟨hk1, hk2, _⟩ := hk
      have hv0 : (0 : Int) ≤ (v : Int) := Int.natCast_nonneg _
      have hv1 : (v : Int) < (M : Int) := by omega
      have hV3 : V ≠ 0 := by omega
      have hV4 : (V == 0) = false := by simp; omega
      clear h1 h2 h4 hvq hVs hVp hxx hVV
      go_wp2_with fail
      go_quiet (first | (go_at_call 156; exact Calls.quiet_of_same (HX _ (below_drewN (Below.refl _ _) _)).out))
      go_wp2_with fail
      refine (VAL _ (below_drewN (Below.refl _ _) _)).out.mono ?_
      rintro e w2 ⟨rfl, hb2⟩
      have hb3 : Below wr.heap.size wr w2 := (below_drewN (Below.refl _ _) nq).trans hb2
      have s0 : w2.cell? ⟨pr, 0, none⟩ = some (.pointer (some ⟨pb, 0, none⟩)) := by rw [(HR.out.red.below hb3 HR.out.red.lt).cell]; rfl
      have s2 : w2.cell? ⟨pb, 1, none⟩ = some (.slice (some ⟨g, 0, none⟩) M cg) := by rw [(HR.out.brd.below hb3 HR.out.brd.lt).cell]; rfl
      have s3 : w2.cell? ⟨g, v, none⟩ = some (.int .i64 x) := (hb3.cell (p := ⟨g, v, none⟩) HR.out.chips.lt).trans hxc
      have HB3 := Lib.hid hb3
      have hx0 : 0 ≤ -x := by omega
      have hx1 : -x ≤ 1000000000000 := by omega
      clear hb2 hb3 VAL HX r0 r1 r2 hxc
      go_wp2_with fail
      refine (FIR _ w2 HB3.out).out.mono ?_
      rintro e w4 ⟨rfl, hr4, hb4, _⟩
      have HR4 := Lib.hid hr4
      have HB4 := Lib.hid ((HBL.out.trans (HB3.out.mono HSZ.out)).trans hb4)
      have HZ4 := Lib.hid (Nat.le_trans (Nat.le_trans HSZ.out HB3.out.size) hb4.size)
      have HL4 := Lib.hid (HP2.out.sum HW.out hM HES.out HDB.out)
      clear hr4 hb4 s0 s2 s3 FIR
      go_wp2
      go_roundg (81435600 + sumV (addAt f v (-(-x + V - 1).tdiv V)) M).toNat
      case measure =>
        have a1 := HG.out
        have a2 := HS2.out
        have a3 := HL4.out
        omega
      case rel => exact ⟨_, Lib.hid (by have := HL4.out; omega), HP2, HR4, HB4, HZ4⟩
end Go.Proofs.Ytndncmjhpbjcoaa

/- The program's firings. -/
namespace Go.Proofs.Ytndncmjhpbjcoaa
open Go.RowKit

def Allow (c h : Nat → Int) (l : List Int) (T : Int) : Prop := 1 ≤ T ∧ T ≤ 9223372036854775807 ∧ ∀ v : Nat, (v : Int) ∈ l → 0 < h v → T ≤ (c v).tdiv (h v)
theorem Allow.start (c h : Nat → Int) : Allow c h [] 9223372036854775807 := ⟨by omega, by omega, fun v hv => by simp at hv⟩
theorem Allow.skip {c h : Nat → Int} {l : List Int} {T : Int} {v : Nat} (a : Allow c h l T) (hv : ¬ 0 < h v) : Allow c h (l ++ [(v : Int)]) T := ⟨a.1, a.2.1, fun u hu hp => by
  rw [List.mem_append, List.mem_singleton] at hu
  rcases hu with hu | hu
  · exact a.2.2 u hu hp
  · rw [show u = v by omega] at hp
    exact absurd hp hv⟩
theorem quo_pos {x y : Int} (hy : 0 < y) (h : y ≤ x) : 1 ≤ x.tdiv y ∧ x.tdiv y ≤ x ∧ x.tdiv y * y ≤ x := by
  rw [Int.tdiv_eq_ediv_of_nonneg (by omega)]
  have h1 := Int.ediv_mul_le x (show y ≠ 0 by omega)
  have h2 : 1 ≤ x / y := by
    rw [Int.le_ediv_iff_mul_le hy]
    omega
  have h3 : x / y ≤ x := Int.ediv_le_self _ (by omega)
  exact ⟨h2, h3, h1⟩
theorem Allow.take {c h : Nat → Int} {l : List Int} {T : Int} {v : Nat} (a : Allow c h l T) (hv : 0 < h v) (hc : h v ≤ c v) : Allow c h (l ++ [(v : Int)]) (min T ((c v).tdiv (h v))) := by
  have hq := quo_pos hv hc
  refine ⟨by have := a.1; omega, by have := a.2.1; omega, fun u hu hp => ?_⟩
  rw [List.mem_append, List.mem_singleton] at hu
  rcases hu with hu | hu
  · have := a.2.2 u hu hp
    omega
  · rw [show u = v by omega]
    omega
theorem take_snocK {l : List Int} {k : Nat} {x : Int} (h : l[k]? = some x) : l.take (k + 1) = l.take k ++ [x] := by rw [List.take_add_one, h]; rfl
set_option maxRecDepth 100000 in
set_option maxHeartbeats 4000000 in
theorem firings_any (B base pf gh ch pb M g cg : Nat) (E : Value) (S : Option Addr) (cs BS : Nat) (f h : Nat → Int) (ord l : List Int) (w : World) (hM : M ≤ 6) (hl : l.length ≤ 6) (hlb : ∀ x ∈ l, 0 ≤ x ∧ x < (M : Int))
    (hf : ∀ u, u < M → -1000000000000 ≤ f u ∧ f u ≤ 1000000000000) (hh : ∀ u, 0 ≤ h u ∧ h u ≤ 24) (hc : ∀ v : Nat, (v : Int) ∈ l → h v ≤ f v)
    (hB : Blk w pb 75 #[E, .slice (some ⟨g, 0, none⟩) M cg]) (hC : Chips w g (chipsOf M f)) (hS : IntS w BS S l) (hBS : BS ≤ w.heap.size) (hZ : Blaze w B base pf gh ch pb M ord h) :
    Calls Try.prog 158 #[.pointer (some ⟨pf, 0, none⟩), .slice S l.length cs] w fun e w' => (∃ T, e = .returned (.int .i64 T) ∧ Allow f h l T) ∧ Below w.heap.size w w' := by
  obtain ⟨O, co, hbx, hown⟩ := hZ.box
  have HBX := Lib.hid hbx
  have HB := Lib.hid hB
  have HC := Lib.hid hC
  have HS := Lib.hid hS
  have HH := Lib.hid hZ.heat
  have HF := Lib.hid hf
  have HHB := Lib.hid hh
  have HLB := Lib.hid hlb
  have HCC := Lib.hid hc
  clear hbx hB hC hS hZ hf hh hlb hc hown
  go_enter Try.func158, Try.ntmps158
  go_wp2
  go_loopw [5, 7, 10] (fun t _ i wr => ∃ (k : Nat) (T : Int), k ≤ l.length ∧ i = .int .i64 k ∧ t = .int .i64 T ∧ Allow f h (l.take k) T ∧ Below w.heap.size w wr) (fun _ _ i _ => l.length - (intOf i).toNat)
  case atStart => exact ⟨0, _, Nat.zero_le _, rfl, rfl, Allow.start f h, Below.refl _ _⟩
  case round =>
    obtain ⟨k, T, hk, rfl, rfl, hal, hb⟩ := hrel
    have HAL := Lib.hid hal
    have HBW := Lib.hid hb
    clear hal hb
    by_cases hlt : k < l.length
    · obtain ⟨b1, o1, x, rfl, hb1, he, hc0⟩ := (HS.out.keep (fun p hp => HBW.out.cell (by omega)) (Nat.le_refl _)).at_ hlt
      have hi0 : (0 : Int) ≤ (k : Int) := Int.natCast_nonneg _
      have hi1 : (k : Int) < (l.length : Int) := by omega
      obtain ⟨hx0, hx1⟩ := HLB.out x (List.mem_of_getElem? he)
      obtain ⟨v, rfl⟩ : ∃ v : Nat, x = (v : Int) := ⟨x.toNat, by omega⟩
      have hvM : v < M := by omega
      have hcc := HCC.out v (List.mem_of_getElem? he)
      have HT := Lib.hid (take_snocK he)
      have hx6 : (v : Int) ≤ 6 := by omega
      have p2 : wr.cell? ⟨pf, 2, none⟩ = some (.slice (some ⟨gh, 0, none⟩) M ch) := by rw [(HBX.out.below HBW.out HBX.out.lt).cell]; rfl
      have p0 : wr.cell? ⟨pf, 0, none⟩ = some (.pointer (some ⟨pb, 0, none⟩)) := by rw [(HBX.out.below HBW.out HBX.out.lt).cell]; rfl
      have p3 : wr.cell? ⟨pb, 1, none⟩ = some (.slice (some ⟨g, 0, none⟩) M cg) := by rw [(HB.out.below HBW.out HB.out.lt).cell]; rfl
      have hhv := HHB.out v
      have hfv := HF.out v hvM
      have p4 : wr.cell? ⟨gh, v, none⟩ = some (.int .i64 (h v)) := by
        have := ((HH.out.below HBW.out).cell v _ (chipsOf_at _ hvM)).1
        rw [wrap64_of (by omega) (by omega)] at this
        exact this
      have p5 : wr.cell? ⟨g, v, none⟩ = some (.int .i64 (f v)) := by
        have := ((HC.out.below HBW.out).cell v _ (chipsOf_at _ hvM)).1
        rw [wrap64_of (by omega) (by omega)] at this
        exact this
      have hT1 := HAL.out.1
      have hT2 := HAL.out.2.1
      have HSK := Lib.hid (fun (hn : ¬ 0 < h v) => HAL.out.skip hn)
      have HTK := Lib.hid (fun (hn : 0 < h v) => HAL.out.take hn hcc)
      have HQ := Lib.hid (fun (hn : 0 < h v) => quo_pos hn hcc)
      rw [← HT.out] at HSK HTK
      obtain ⟨y, hy⟩ : ∃ y, y = h v := ⟨_, rfl⟩
      obtain ⟨z, hz⟩ : ∃ z, z = f v := ⟨_, rfl⟩
      rw [← hy] at p4 hhv HSK HTK HQ hcc
      rw [← hz] at p5 hfv HTK HQ hcc
      clear he hy hz
      by_cases hpos : 0 < y
      · have t1 : decide (0 < y) = true := decide_eq_true hpos
        have HTK2 := Lib.hid (HTK.out hpos)
        obtain ⟨hq1, hq2, _⟩ := HQ.out hpos
        have hq3 : 0 ≤ z.tdiv y := by omega
        have hq4 : z.tdiv y ≤ 1000000000000 := by omega
        have hy0 : y ≠ 0 := by omega
        have hy1 : (y == 0) = false := by simp; omega
        clear HSK HTK HQ
        go_wp2_with fail
        go_region
        go_wp2
        exact ⟨⟨k + 1, _, by omega, by go_num, rfl, HTK2.out, HBW.out.drew⟩, by simp [intOf]; omega⟩
      · have t1 : decide (0 < y) = false := decide_eq_false hpos
        have HSK2 := Lib.hid (HSK.out hpos)
        clear HSK HTK HQ hpos
        go_wp2
        exact ⟨⟨k + 1, T, by omega, by go_num, rfl, HSK2.out, HBW.out⟩, by simp [intOf]; omega⟩
    · have hal := HAL.out
      rw [List.take_of_length_le (by omega)] at hal
      have HA2 := Lib.hid hal
      clear hal
      go_wp2
      go_ret
      exact ⟨⟨T, rfl, HA2.out⟩, HBW.out⟩
end Go.Proofs.Ytndncmjhpbjcoaa

/- The program's fireSpared and reduce. -/
namespace Go.Proofs.Ytndncmjhpbjcoaa
open Go.RowKit

theorem inL_up (M : Nat) (bs : List Int) (f : Nat → Int) (t : Int) : addSet f (inL (sparedL M bs)) t = addSet f (upU bs M) t := by
  funext u
  unfold addSet
  have : inL (sparedL M bs) (u : Int) = upU bs M (u : Int) := by
    rw [Bool.eq_iff_iff]
    simp only [inL, upU, decide_eq_true_eq, sparedL_mem, Bool.and_eq_true, Bool.not_eq_true', decide_eq_false_iff_not]
    constructor
    · rintro ⟨_, h2, h3⟩
      exact ⟨h3, h2⟩
    · rintro ⟨h1, h2⟩
      exact ⟨by omega, h2, h1⟩
  rw [this]
theorem inL_take {l : List Int} {k v : Nat} (f : Nat → Int) (t : Int) (h : l[k]? = some (v : Int)) (hn : l.Nodup) : addAt (addSet f (inL (l.take k)) t) v t = addSet f (inL (l.take (k + 1))) t := by
  have hnm : ¬ (v : Int) ∈ l.take k := fun hm => by
    have h3 : (l.take (k + 1)).Nodup := hn.sublist (List.take_sublist _ _)
    rw [take_snocK h, List.nodup_append] at h3
    exact absurd rfl (h3.2.2 _ hm _ (by simp))
  funext u
  rw [take_snocK h]
  unfold addAt addSet
  by_cases e : u = v
  · subst e
    simp [inL, hnm]
  · have : ¬ (u : Int) = (v : Int) := by omega
    simp [inL, e, this]
theorem inL_zero (f : Nat → Int) (t : Int) : addSet f (inL []) t = f := by
  funext u
  simp [addSet, inL]
theorem OwnI.keep_ {w w' : World} {base : Nat} {A : Option Addr} {zs : List Int} (h : OwnI w base A zs) (hs : w.heap.size ≤ w'.heap.size) (hk : ∀ i, i < w.heap.size → base ≤ i → w'.heap[i]? = w.heap[i]?) : OwnI w' base A zs := fun hn => by
  obtain ⟨k, off, e, h1, hl, hc⟩ := h hn
  have hbl := hk k hl h1
  exact ⟨k, off, e, h1, Nat.lt_of_lt_of_le hl hs, fun i z hz => ⟨(World.cell?_of_block (a := ⟨k, off + i, none⟩) hbl).trans (hc i z hz).1, (World.frozen?_of_block (a := ⟨k, off + i, none⟩) hbl).trans (hc i z hz).2⟩⟩
theorem keepRd {w W w2 : World} {p r : Addr} {a b : Value} (hS : W.cell? p = some a ∧ W.cell? r = some b ∧ Below w.heap.size w W) (hb : Below W.heap.size W w2) (hp : p.block < w.heap.size) (hr : r.block < w.heap.size) : w2.cell? p = some a ∧ w2.cell? r = some b ∧ Below w.heap.size w w2 := by
  obtain ⟨h1, h2, h5⟩ := hS
  have hz := h5.size
  exact ⟨(hb.cell (by omega)).trans h1, (hb.cell (by omega)).trans h2, h5.trans (hb.mono hz)⟩
section
variable {M : Nat} {es : List (Int × Int)} {d : List Int} {q : Nat} {f : Nat → Int} {σ : Nat → Int}
theorem spared_hot {bs : List Int} (hc : Cut M es) (hes : ∀ e ∈ es, 0 ≤ e.1 ∧ e.1 < e.2 ∧ e.2 < (M : Int)) (hb : Burns M (q : Int) bs) (hne : sparedL M bs ≠ []) : ∃ v : Nat, v < M ∧ (v : Int) ∈ sparedL M bs ∧ 0 < heat (inL bs) v es := by
  apply Classical.byContradiction
  intro hno
  have hall := hc.all hes hb fun v hv hnb => by
    apply Classical.byContradiction
    intro hp
    exact hno ⟨v, hv, sparedL_mem.2 ⟨by omega, by omega, hnb⟩, by omega⟩
  obtain ⟨x, hx⟩ := List.exists_mem_of_ne_nil _ hne
  obtain ⟨h1, h2, h3⟩ := sparedL_mem.1 hx
  have := hall x.toNat (by omega)
  rw [show ((x.toNat : Nat) : Int) = x by omega] at this
  exact h3 this
theorem spared_nil {bs : List Int} (hb : Burns M (q : Int) bs) (h : sparedL M bs = []) : bs.length = M :=
  hb.full_iff.2 fun v hv => by
    apply Classical.byContradiction
    intro hn
    have := sparedL_mem.2 ⟨Int.natCast_nonneg v, show (v : Int) < (M : Int) by omega, hn⟩
    rw [h] at this
    cases this
end
set_option maxRecDepth 100000 in
set_option maxHeartbeats 8000000 in
theorem fireSpared_any (B pr pb g cg gs M q : Nat) (A : Option Addr) (cA : Nat) (es : List (Int × Int)) (d : List Int) (f0 : Nat → Int) (σ : Nat → Int) (w : World) (hM0 : 0 < M) (hM : M ≤ 6) (hq : q < M) (hn : es.length ≤ 12) (hes : ∀ e ∈ es, 0 ≤ e.1 ∧ e.1 < e.2 ∧ e.2 < (M : Int)) (hdb : ∀ u, -300 ≤ d.getD u 0 ∧ d.getD u 0 ≤ 300) (hc : Cut M es) (hw : Wt M es q σ)
    (hBw : B ≤ w.heap.size) (hE : EdgeS w B A es) (hN : RdN B pr pb g gs) (hP : Ph2 M es d q σ f0) (hR : RdI w B pr pb g cg gs M q A cA es d f0) :
    Calls Try.prog 138 #[.pointer (some ⟨pr, 0, none⟩)] w fun e w' => e = .returned (.tuple #[]) ∧ ∃ f, IsRed M es d q f ∧ RdI w' B pr pb g cg gs M q A cA es d f ∧ Below B w w' := by
  have HN := Lib.hid hn
  have HW := Lib.hid hw
  have HES := Lib.hid hes
  have HDB := Lib.hid hdb
  have HCU := Lib.hid hc
  have HE := Lib.hid hE
  have HNN := Lib.hid hN
  have HR := Lib.hid hR
  have HP := Lib.hid hP
  have HSM := Lib.hid (hP.sum hw hM hes)
  have hBz := hBw
  have hq0 : (0 : Int) ≤ (q : Int) := Int.natCast_nonneg _
  clear hw hes hdb hc hE hN hR hP
  go_enter Try.func138, Try.ntmps138
  go_wp2
  go_loopg [2, 3, 4, 6, 26] (40717800 - sumV f0 M).toNat (fun gk _ _ _ _ _ wr => ∃ (f : Nat → Int), Hid ((gk : Int) = 40717800 - sumV f M) ∧ Hid (Ph2 M es d q σ f) ∧ Hid (RdI wr B pr pb g cg gs M q A cA es d f) ∧ Hid (Below B w wr) ∧ Hid (B ≤ wr.heap.size))
  case atStart => exact ⟨f0, Lib.hid (by have := HSM.out; omega), HP, HR, Lib.hid (Below.refl _ _), Lib.hid hBz⟩
  case round =>
    clear HP HR HSM
    obtain ⟨f, HG, HP, HR, HBL, HSZ⟩ := hrel
    have HF := Lib.hid (HP.out.high HW.out hM HES.out)
    have BRN := fun (w' : World) (hb : Below wr.heap.size wr w') => Lib.hid (show Calls Try.prog 111 #[.pointer (some ⟨pb, 0, none⟩), .int .i64 (q : Int)] w' (fun e w'' => ∃ (base pf gh ch : Nat) (h : Nat → Int), e = .returned (.pointer (some ⟨pf, 0, none⟩)) ∧ Blaze w'' w'.heap.size base pf gh ch pb M (burntL M es (chipsOf M (Dv d es f)) (q : Int)) h ∧ HeatIs es (burntL M es (chipsOf M (Dv d es f)) (q : Int)) h ∧ Below w'.heap.size w' w'') from burn_any pb g cg cA M q A es (chipsOf M (Dv d es f)) w' hM0 hM hq (chipsOf_len _ _) HN.out HES.out (Nat.lt_of_lt_of_le HR.out.brd.lt hb.size) (HR.out.brd.below hb HR.out.brd.lt) (HR.out.chips.below hb) (HE.out.keep (fun p hp => (HBL.out.trans (hb.mono HSZ.out)).cell (by omega)) (Nat.le_trans HSZ.out hb.size)))
    have hbt := burntL_all (M := M) (es := es) (d := chipsOf M (Dv d es f)) (q := (q : Int)) (by omega)
    have HPN := fun (t : Int) (ht : 0 ≤ t) (h : ∀ v : Nat, v < M → ¬ (v : Int) ∈ burntL M es (chipsOf M (Dv d es f)) (q : Int) → t * heat (inL (burntL M es (chipsOf M (Dv d es f)) (q : Int))) v es ≤ Dv d es f v) => Lib.hid (HP.out.next HW.out hq HES.out ht h)
    have HCN := Lib.hid (fun (v : Nat) (hv : v < M) (hnb : ¬ (v : Int) ∈ burntL M es (chipsOf M (Dv d es f)) (q : Int)) => show heat (inL (burntL M es (chipsOf M (Dv d es f)) (q : Int))) v es ≤ Dv d es f v from by
      have h1 := nextV_no hbt.2 v hv
      simp only [catchV, Bool.and_eq_false_iff, decide_eq_false_iff_not, Bool.not_eq_false'] at h1
      rw [Dv_get HN.out HDB.out HES.out HF.out hv] at h1
      rcases h1 with g | g
      · omega
      · exact absurd (by simpa [inL] using g) hnb)
    have HRD := Lib.hid (fun (hl : (burntL M es (chipsOf M (Dv d es f)) (q : Int)).length = M) => HP.out.red HW.out hM HES.out hl)
    obtain ⟨bs, hbs⟩ : ∃ x, x = burntL M es (chipsOf M (Dv d es f)) (q : Int) := ⟨_, rfl⟩
    rw [← hbs] at BRN
    rw [← hbs] at hbt HPN HCN HRD
    have HBU := Lib.hid hbt.1
    have hbl := hbt.1.len
    have hbl0 : 0 < bs.length := List.length_pos_of_mem hbt.1.first
    have HBS := Lib.hid hbs
    have r0 : wr.cell? ⟨pr, 0, none⟩ = some (.pointer (some ⟨pb, 0, none⟩)) := by rw [HR.out.red.cell]; rfl
    have r1 : wr.cell? ⟨pr, 1, none⟩ = some (.int .i64 (q : Int)) := by rw [HR.out.red.cell]; rfl
    have lr := HR.out.red.lt
    obtain ⟨gx, rfl⟩ : ∃ gx : Nat, gx = gk := ⟨_, rfl⟩
    obtain ⟨wo, rfl⟩ : ∃ wo : World, wo = wr := ⟨_, rfl⟩
    clear hbt hbs
    go_wp2_with fail
    go_region_held3 (fun w' => w'.cell? ⟨pr, 0, none⟩ = some (.pointer (some ⟨pb, 0, none⟩)) ∧ w'.cell? ⟨pr, 1, none⟩ = some (.int .i64 (q : Int)) ∧ Below wo.heap.size wo w')
      (first
        | exact ⟨r0, r1, (Below.refl _ _).drew⟩
        | assumption
        | exact keepRd (by assumption) hb6 lr lr)
      (first
        | (go_at_call 111; refine (BRN _ (Below.refl _ _).drew).out.mono ?_; rintro e w6 ⟨base, pf, gh, ch, h, rfl, hz, hh, hb6⟩))
    have hb7 : Below wo.heap.size wo w6 := ((Below.refl _ _).drew).trans hb6
    have HZ := Lib.hid hz
    have HH := Lib.hid hh
    have HR6 := Lib.hid (HR.out.below hb7)
    have HB6 := Lib.hid (HBL.out.trans (hb7.mono HSZ.out))
    have HS6 := Lib.hid (Nat.le_trans HSZ.out hb7.size)
    have SP := Lib.hid (spared_any _ base pf gh ch pb M bs h w6 hM (by omega) hbl0 hz)
    clear hb6 hb7 hz hh r0 r1 lr BRN
    go_wp2_with fail
    refine SP.out.mono ?_
    rintro e w7 ⟨S7, c7, rfl, ho7, hb7⟩
    have HZ7 := Lib.hid (HZ.out.below hb7)
    have HR7 := Lib.hid (HR6.out.below hb7)
    have HB7 := Lib.hid (HB6.out.trans (hb7.mono HS6.out))
    have HS7 := Lib.hid (Nat.le_trans HS6.out hb7.size)
    have HO7 := Lib.hid ho7
    have HK6 := Lib.hid (show g < w6.heap.size ∧ gs < w6.heap.size from ⟨HR6.out.chips.lt, HR6.out.scr.lt⟩)
    have HI7 := Lib.hid ho7.ints
    clear ho7 hb7 HZ HR6 HB6 SP
    have hsl := sparedL_len M bs
    have hnd := sparedL_nodup M bs
    obtain ⟨K6, hK6⟩ : ∃ x, x = w6.heap.size := ⟨_, rfl⟩
    rw [← hK6] at HO7 HK6
    have HME := Lib.hid (fun (x : Int) => sparedL_mem (M := M) (ord := bs) (x := x))
    have HUP := Lib.hid (fun (f : Nat → Int) (t : Int) => inL_up M bs f t)
    have HNI := Lib.hid (fun (h : sparedL M bs = []) => spared_nil HBU.out h)
    have HHO := Lib.hid (fun (h : sparedL M bs ≠ []) => spared_hot HCU.out HES.out HBU.out h)
    obtain ⟨L, hL⟩ : ∃ x, x = sparedL M bs := ⟨_, rfl⟩
    rw [← hL] at HO7 HI7 hsl hnd HME HUP HNI HHO ⊢
    have HND := Lib.hid hnd
    clear hL hK6 hnd
    by_cases h0 : L.length = 0
    · have t1 : ((L.length : Int) == 0) = true := by simp [h0]
      have HIR := Lib.hid (HRD.out (HNI.out (List.eq_nil_of_length_eq_zero h0)))
      clear h0
      go_wp2
      refine bodyPost_ret (results_none rfl _ _ _) rfl ?_
      exact ⟨rfl, f, HIR.out, HR7.out, HB7.out⟩
    · have t1 : ((L.length : Int) == 0) = false := by rw [beq_eq_false_iff_ne]; omega
      have hne : L ≠ [] := fun h => h0 (by rw [h]; rfl)
      obtain ⟨v0, hv0, hvm0, hvh0⟩ := HHO.out hne
      have hfb := fun (u : Nat) (_ : u < M) => Dv_bound (M := M) (f := f) (d := d) HN.out (fun u => by have := HDB.out u; omega) HES.out HF.out u
      have FR := Lib.hid (firings_any _ base pf gh ch pb M g cg (.slice A es.length cA) S7 c7 w7.heap.size (Dv d es f) h bs L w7 hM (by omega) (fun x hx => ⟨((HME.out x).1 hx).1, ((HME.out x).1 hx).2.1⟩) hfb (fun u => by
        have h1 := heat_lo (inL bs) u es
        have h2 := HH.out u
        have h3 := HN.out
        omega) (fun v hv => by
        rw [HH.out v]
        have h1 := (HME.out _).1 hv
        exact HCN.out v (by omega) h1.2.2) HR7.out.brd HR7.out.chips HI7.out (Nat.le_refl _) HZ7.out)
      clear h0 hne hfb
      go_wp2_with fail
      refine FR.out.mono ?_
      rintro e w8 ⟨⟨T, rfl, hal⟩, hb8⟩
      have hT1 := hal.1
      have hT2 : T ≤ 1000000000000 := by
        have h1 := hal.2.2 v0 hvm0 (by rw [HH.out v0]; exact hvh0)
        have h2 := (quo_pos (x := Dv d es f v0) (y := h v0) (by rw [HH.out v0]; exact hvh0) (by rw [HH.out v0]; exact HCN.out v0 hv0 ((HME.out _).1 hvm0).2.2)).2.1
        have h3 := (Dv_bound (M := M) (f := f) (d := d) HN.out (fun u => by have := HDB.out u; omega) HES.out HF.out v0).2
        omega
      have HPX := HPN T (by omega) (fun v hv hnb => by
        have h1 := (heat_lo (inL bs) v es).1
        by_cases hz : heat (inL bs) v es = 0
        · rw [hz]
          have := HP.out.pos v hv (fun e => hnb (by rw [e]; exact HBU.out.first))
          omega
        · have h2 := hal.2.2 v ((HME.out _).2 ⟨by omega, by omega, hnb⟩) (by rw [HH.out v]; omega)
          have h3 := (quo_pos (x := Dv d es f v) (y := h v) (by rw [HH.out v]; omega) (by rw [HH.out v]; exact HCN.out v hv hnb)).2.2
          rw [HH.out v] at h2 h3
          have h4 := Int.mul_le_mul_of_nonneg_right h2 h1
          omega)
      have HSX := Lib.hid (addSet_sum (M := M) (f := f) (U := upU bs M) (t := T) (by omega) ⟨v0, hv0, by
        have h1 := ((HME.out _).1 hvm0).2.2
        simp [upU, inL, h1, hv0]⟩)
      have HSY := Lib.hid (HPX.out.sum HW.out hM HES.out)
      have HR8 := Lib.hid (HR7.out.below hb8)
      have HB8 := Lib.hid (HB7.out.trans (hb8.mono HS7.out))
      have HS8 := Lib.hid (Nat.le_trans HS7.out hb8.size)
      have HO8 := Lib.hid (HO7.out.below hb8)
      clear hal hb8 HZ7 HR7 HB7 HI7 HO7 FR hvm0 hvh0
      go_wp2
      go_loopg [6, 26] L.length (fun gj _ s26 wx => ∃ k : Nat, k ≤ L.length ∧ gj + k = L.length ∧ s26 = .int .i64 k ∧ Hid (RdI wx B pr pb g cg gs M q A cA es d (addSet f (inL (L.take k)) T)) ∧ Hid (Below B w wx) ∧ Hid (B ≤ wx.heap.size) ∧ Hid (OwnI wx K6 S7 L))
      case atStart => exact ⟨0, Nat.zero_le _, by omega, rfl, Lib.hid (by rw [List.take_zero, inL_zero]; exact HR8.out), HB8, HS8, HO8⟩
      case round =>
        obtain ⟨k, hk, hgk, rfl, HRk, HBk, HSk, HOk⟩ := hrel
        by_cases hlt : k < L.length
        · obtain ⟨b1, o1, x, hS7, hb1, he, hc0⟩ := HOk.out.ints.at_ hlt
          subst hS7
          have hi0 : (0 : Int) ≤ (k : Int) := Int.natCast_nonneg _
          have hi1 : (k : Int) < (L.length : Int) := by omega
          have hxm := (HME.out x).1 (List.mem_of_getElem? he)
          obtain ⟨v, rfl⟩ : ∃ v : Nat, x = (v : Int) := ⟨x.toNat, by omega⟩
          have hvM : v < M := by omega
          have HTK := Lib.hid (inL_take f T he HND.out)
          have FIR := Lib.hid (fireR_any B pr pb g cg gs M q v A cA es d (addSet f (inL (L.take k)) T) T wr HSk.out hvM HN.out HES.out (HE.out.keep (fun p hp => HBk.out.cell (by omega)) (Nat.le_refl _)) HNN.out HRk.out)
          clear he hxm
          go_wp2_with fail
          refine FIR.out.mono ?_
          rintro e w9 ⟨rfl, hr9, hb9, hk9⟩
          rw [HTK.out] at hr9
          have HR9 := Lib.hid hr9
          have HB9 := Lib.hid (HBk.out.trans hb9)
          have HS9 := Lib.hid (Nat.le_trans HSk.out hb9.size)
          have HO9 := Lib.hid (HOk.out.keep_ hb9.size (fun i hi hbi => hk9 i hi (by have := HK6.out; omega) (by have := HK6.out; omega)))
          clear hr9 hb9 hk9 hc0 FIR
          go_wp2
          go_roundg (gk - 1)
          case measure => omega
          case rel => exact ⟨k + 1, by omega, by omega, by go_num, HR9, HB9, HS9, HO9⟩
        · have hr9 := HRk.out
          rw [List.take_of_length_le (by omega), HUP.out] at hr9
          have HR9 := Lib.hid hr9
          clear hr9
          go_wp2
          go_roundg (40717800 - sumV (addSet f (upU bs M) T) M).toNat
          case measure =>
            have a1 := HG.out
            have a2 := HSX.out
            have a3 := HSY.out
            omega
          case rel => exact ⟨_, Lib.hid (by have := HSY.out; omega), HPX, HR9, HBk, HSk⟩
end Go.Proofs.Ytndncmjhpbjcoaa

/- The program's reduce. -/
namespace Go.Proofs.Ytndncmjhpbjcoaa
open Go.RowKit

def GivesRdn (w : World) (M : Nat) (A : Option Addr) (c : Nat) (es : List (Int × Int)) (d : List Int) (q : Nat) (e : Ending) (w' : World) : Prop :=
  ∃ (pr pb g cg gs : Nat) (f : Nat → Int), e = .returned (.pointer (some ⟨pr, 0, none⟩)) ∧ IsRed M es d q f ∧ RdI w' w.heap.size pr pb g cg gs M q A c es d f ∧ RdN w.heap.size pr pb g gs ∧ Below w.heap.size w w'
set_option maxRecDepth 100000 in
set_option maxHeartbeats 8000000 in
theorem reduceW_any (A D : Option Addr) (c cd M q : Nat) (es : List (Int × Int)) (d : List Int) (w : World) (hM0 : 0 < M) (hM : M ≤ 6) (hq : q < M) (hd : d.length = M) (hn : es.length ≤ 12) (hes : ∀ e ∈ es, 0 ≤ e.1 ∧ e.1 < e.2 ∧ e.2 < (M : Int)) (hdb : ∀ u, -300 ≤ d.getD u 0 ∧ d.getD u 0 ≤ 300) (hc : Cut M es)
    (hE : EdgeS w w.heap.size A es) (hS : IntS w w.heap.size D d) :
    Calls Try.prog 105 #[.agg #[.int .i64 (M : Int), .slice A es.length c], .slice D d.length cd, .int .i64 (q : Int)] w (GivesRdn w M A c es d q) := by
  obtain ⟨σ, hw⟩ := wt_exists hM hn hq hes hc
  have hmk := make_ints M (by omega)
  have hdw : ∀ x ∈ d, -9223372036854775808 ≤ x ∧ x ≤ 9223372036854775807 := fun x hx => by
    obtain ⟨i, hi⟩ := List.getElem?_of_mem hx
    have := hdb i
    simp [List.getD, hi] at this
    omega
  have HST := Lib.hid (show d = chipsOf M (Dv d es fun _ => 0) from by
    have h1 := chips_start hd hdw
    rw [← h1]
    exact chipsOf_eq fun u _ => by rw [h1, Dv, termsF_zero (fun _ => rfl)]; omega)
  have BO := fun (w' : World) (hb : Below w.heap.size w w') => Lib.hid (show Calls Try.prog 101 #[.agg #[.int .i64 (M : Int), .slice A es.length c], .slice D M cd] w' (fun e w'' => ∃ p g cg : Nat, e = .returned (.pointer (some ⟨p, 0, none⟩)) ∧ Blk w'' p 75 #[.slice A es.length c, .slice (some ⟨g, 0, none⟩) M cg] ∧ Chips w'' g d ∧ w'.heap.size ≤ g ∧ g < p ∧ Below w'.heap.size w' w'') from by
    have h := boardOf_any (M : Int) A D es.length c cd d w' (by omega) (by omega) (hS.up_ hb)
    unfold GivesBoard at h
    rw [hd] at h
    exact h)
  have PD := fun (pr pb g cg gs : Nat) (w' : World) (hb : Below w.heap.size w w') (hN : RdN w.heap.size pr pb g gs) (hR : RdI w' w.heap.size pr pb g cg gs M q A c es d (fun _ => 0)) => Lib.hid (payDebts_any w.heap.size pr pb g cg gs M q A c es d w' hM hq hn hes hdb hc hb.size (hE.keep (fun p hp => hb.cell hp) (Nat.le_refl _)) hN hR)
  have FS := fun (pr pb g cg gs : Nat) (f : Nat → Int) (w' : World) (hb : Below w.heap.size w w') (hN : RdN w.heap.size pr pb g gs) (hP : Ph1 M es d q f) (hH : hasDebt (chipsOf M (Dv d es f)) (q : Int) = false) (hR : RdI w' w.heap.size pr pb g cg gs M q A c es d f) => Lib.hid (fireSpared_any w.heap.size pr pb g cg gs M q A c es d f σ w' hM0 hM hq hn hes hdb hc hw hb.size (hE.keep (fun p hp => hb.cell hp) (Nat.le_refl _)) hN (hP.end_ hw hM hes hdb (noDebt hn hdb hes (hP.wide hw hM hes hdb) hH)) hR)
  have hM1 : (0 : Int) ≤ (M : Int) := Int.natCast_nonneg _
  rw [hd]
  clear hw hes hdb hc hE hS hd hdw
  go_enter Try.func105, Try.ntmps105
  go_wp2_with fail
  obtain ⟨W0, hW0⟩ : ∃ X : World, X = w.alloc (Obj.cells #[.int .i64 (M : Int), .slice A es.length c] 25) := ⟨_, rfl⟩
  rw [← hW0]
  have hb0 : Below w.heap.size w W0 := by rw [hW0]; exact (Below.refl _ _).alloc (Nat.le_refl _) _
  have hx0 : Blk W0 w.heap.size 25 #[.int .i64 (M : Int), .slice A es.length c] := by rw [hW0]; exact Blk.new w _ _
  have c0 : W0.cell? ⟨w.heap.size, 0, none⟩ = some (.int .i64 (M : Int)) := by rw [hx0.cell]; rfl
  have c1 : W0.cell? ⟨w.heap.size, 1, none⟩ = some (.slice A es.length c) := by rw [hx0.cell]; rfl
  have l0 : w.heap.size < W0.heap.size := hx0.lt
  clear hW0 hx0
  go_region_held3 (fun w' => w'.cell? ⟨w.heap.size, 0, none⟩ = some (.int .i64 (M : Int)) ∧ w'.cell? ⟨w.heap.size, 1, none⟩ = some (.slice A es.length c) ∧ Below W0.heap.size W0 w')
    (first
      | exact ⟨c0, c1, (Below.refl _ _).drew⟩
      | assumption
      | exact keepRd (by assumption) hb2 l0 l0
      | exact keepRd (by assumption) ((Below.refl _ _).alloc (Nat.le_refl _) _) l0 l0)
    (first
      | (go_at_call 101; refine (BO _ (by first | exact hb0.drew | exact (hb0.drew.alloc (by simpa using hb0.size) _) | exact (hb0.alloc hb0.size _).drew)).out.mono ?_; rintro e w2 ⟨p, g, cg, rfl, hbrd, hch, hg, hgp, hb2⟩))
  · obtain ⟨W3, hW3⟩ : ∃ X : World, X = (w2.alloc (Obj.cells (intCells (List.replicate M 0)).toArray 3)).alloc (Obj.cells #[.pointer (some ⟨p, 0, none⟩), .int .i64 (q : Int), .slice (some ⟨w2.heap.size, 0, none⟩) M M] 117) := ⟨_, rfl⟩
    rw [← hW3]
    have hsc := Blk.new w2 3 (intCells (List.replicate M 0)).toArray
    rw [chips_zero] at hsc
    have hrd := Blk.new (w2.alloc (Obj.cells (intCells (List.replicate M 0)).toArray 3)) 117 #[.pointer (some ⟨p, 0, none⟩), .int .i64 (q : Int), .slice (some ⟨w2.heap.size, 0, none⟩) M M]
    rw [World.size_alloc, ← hW3] at hrd
    have hba : Below w2.heap.size w2 W3 := by rw [hW3]; exact ((Below.refl _ _).alloc (Nat.le_refl _) _).alloc (by simp) _
    have hch0 := hch
    rw [HST.out] at hch0
    have hp2 := hbrd.lt
    have hW : W0.heap.size ≤ g := hg
    have hR3 : RdI W3 w.heap.size (w2.heap.size + 1) p g cg w2.heap.size M q A c es d (fun _ => 0) := ⟨hrd, hbrd.below hba hp2, hch0.below hba, by
      rw [hW3, chips_zero]
      exact (Chips.of_blk hsc).below ((Below.refl _ _).alloc (Nat.le_refl _) _)⟩
    have hN3 : RdN w.heap.size (w2.heap.size + 1) p g w2.heap.size := ⟨by omega, by omega, by omega, by omega, by omega, by omega, by omega, by omega, by omega⟩
    have hb3 : Below w.heap.size w W3 := (hb0.drew.trans (hb2.mono hb0.size)).trans (hba.mono (by omega))
    clear hsc hrd hba hch0 hp2 hW
    have HR3 := Lib.hid hR3
    have HN3 := Lib.hid hN3
    have HB3 := Lib.hid hb3
    clear hW3 hR3 hN3 hb3 hbrd hch hg hgp hb2 c0 c1
    go_wp2_with fail
    refine (PD _ _ _ _ _ _ HB3.out HN3.out HR3.out).out.mono ?_
    rintro e w4 ⟨rfl, f, hp4, hh4, hr4, hb4⟩
    have HB4 := Lib.hid (HB3.out.trans hb4)
    have FSX := Lib.hid (FS _ _ _ _ _ f w4 HB4.out HN3.out hp4 hh4 hr4)
    clear hp4 hh4 hr4 hb4
    go_wp2_with fail
    refine FSX.out.out.mono ?_
    rintro e w5 ⟨rfl, f5, hi5, hr5, hb5⟩
    have HI5 := Lib.hid hi5
    have HR5 := Lib.hid hr5
    have HB5 := Lib.hid (HB4.out.trans hb5)
    clear hi5 hr5 hb5
    go_wp2
    go_ret
    exact ⟨_, _, _, _, _, f5, rfl, HI5.out, HR5.out, HN3.out, HB5.out⟩
  · obtain ⟨W3, hW3⟩ : ∃ X : World, X = w2.alloc (Obj.cells #[.pointer (some ⟨p, 0, none⟩), .int .i64 (q : Int), .slice (some ⟨W0.heap.size, 0, none⟩) M M] 117) := ⟨_, rfl⟩
    rw [← hW3]
    have hsc := Blk.new W0 3 (intCells (List.replicate M 0)).toArray
    rw [chips_zero] at hsc
    have hgs : Chips w2 W0.heap.size (chipsOf M fun _ => 0) := by
      have h1 := (Chips.of_blk hsc).below ((Below.refl _ _).drew)
      rw [chips_zero] at hb2
      exact h1.below hb2
    have hrd := Blk.new w2 117 #[.pointer (some ⟨p, 0, none⟩), .int .i64 (q : Int), .slice (some ⟨W0.heap.size, 0, none⟩) M M]
    rw [← hW3] at hrd
    have hba : Below w2.heap.size w2 W3 := by rw [hW3]; exact (Below.refl _ _).alloc (Nat.le_refl _) _
    have hch0 := hch
    rw [HST.out] at hch0
    have hp2 := hbrd.lt
    have hW : W0.heap.size + 1 ≤ g := by have := hg; simpa using this
    have hR3 : RdI W3 w.heap.size w2.heap.size p g cg W0.heap.size M q A c es d (fun _ => 0) := ⟨hrd, hbrd.below hba hp2, hch0.below hba, hgs.below hba⟩
    have hN3 : RdN w.heap.size w2.heap.size p g W0.heap.size := ⟨by omega, by omega, by omega, by omega, by omega, by omega, by omega, by omega, by omega⟩
    have hb3 : Below w.heap.size w W3 := ((hb0.alloc hb0.size _).drew.trans (hb2.mono (by simp; omega))).trans (hba.mono (by omega))
    clear hsc hrd hba hch0 hp2 hW hgs
    have HR3 := Lib.hid hR3
    have HN3 := Lib.hid hN3
    have HB3 := Lib.hid hb3
    clear hW3 hR3 hN3 hb3 hbrd hch hg hgp hb2 c0 c1
    go_wp2_with fail
    refine (PD _ _ _ _ _ _ HB3.out HN3.out HR3.out).out.mono ?_
    rintro e w4 ⟨rfl, f, hp4, hh4, hr4, hb4⟩
    have HB4 := Lib.hid (HB3.out.trans hb4)
    have FSX := Lib.hid (FS _ _ _ _ _ f w4 HB4.out HN3.out hp4 hh4 hr4)
    clear hp4 hh4 hr4 hb4
    go_wp2_with fail
    refine FSX.out.out.mono ?_
    rintro e w5 ⟨rfl, f5, hi5, hr5, hb5⟩
    have HI5 := Lib.hid hi5
    have HR5 := Lib.hid hr5
    have HB5 := Lib.hid (HB4.out.trans hb5)
    clear hi5 hr5 hb5
    go_wp2
    go_ret
    exact ⟨_, _, _, _, _, f5, rfl, HI5.out, HR5.out, HN3.out, HB5.out⟩
end Go.Proofs.Ytndncmjhpbjcoaa

/- ReducedOf and ReducingScript: both sides. -/
namespace Go.Proofs.Ytndncmjhpbjcoaa
open Go.RowKit

end Go.Proofs.Ytndncmjhpbjcoaa

/- DegreeOf: both sides are one plain sum that wraps. -/
namespace Go.Proofs.Ytndncmjhpbjcoaa
open Go.RowKit

def degB (xs : List Int) : Nat → Int
  | 0 => 0
  | j + 1 => wrap64 (degB xs j + xs.getD j 0)
theorem getD_ofD {l : List Int} {j : Nat} {z : Int} (h : l[j]? = some z) : l.getD j 0 = z := by simp [List.getD, h]
theorem degB_step {xs : List Int} {j : Nat} {x : Int} (h : xs[j]? = some x) : degB xs (j + 1) = wrap64 (degB xs j + x) := by rw [degB, getD_ofD h]

set_option maxHeartbeats 1000000 in
theorem specDeg (A : Option Addr) (c : Nat) (xs : List Int) (w : World) (hn : xs.length ≤ 1048576) (hS : IntS w w.heap.size A xs) :
    Calls Try.prog 78 #[.slice A xs.length c] w fun e w' => e = .returned (.int .i64 (degB xs xs.length)) ∧ Below w.heap.size w w' := by
  have HS := Lib.hid hS
  clear hS
  go_enter Try.func78, Try.ntmps78
  go_wp2
  go_loop [3, 8] (fun s i => ∃ j : Nat, j ≤ xs.length ∧ i = .int .i64 j ∧ s = .int .i64 (degB xs j)) (fun _ i => xs.length - (intOf i).toNat)
  case atStart => exact ⟨0, Nat.zero_le _, rfl, rfl⟩
  case round =>
    obtain ⟨j, hj, rfl, rfl⟩ := hrel
    by_cases hlt : j < xs.length
    · obtain ⟨b1, o1, x, rfl, hb1, he, hc0⟩ := HS.out.at_ hlt
      have hj0 : (0 : Int) ≤ (j : Int) := Int.natCast_nonneg _
      have hj1 : (j : Int) < (xs.length : Int) := by omega
      have HD := Lib.hid (degB_step he)
      clear he
      go_wp2
      exact ⟨⟨j + 1, by omega, by go_num, by rw [HD.out]⟩, by simp [intOf]; omega⟩
    · have HJ := Lib.hid (show j = xs.length by omega)
      go_wp2
      go_ret
      exact ⟨ret_intE (by rw [HJ.out]), Below.refl _ _⟩
set_option maxHeartbeats 1000000 in
theorem implDeg (A : Option Addr) (c : Nat) (xs : List Int) (w : World) (hn : xs.length ≤ 1048576) (hS : IntS w w.heap.size A xs) :
    Calls Try.prog 21 #[.slice A xs.length c] w fun e w' => e = .returned (.int .i64 (degB xs xs.length)) ∧ Below w.heap.size w w' := by
  have HS := Lib.hid hS
  clear hS
  go_enter Try.func21, Try.ntmps21
  go_wp2
  go_loop [3, 8] (fun s i => ∃ j : Nat, j ≤ xs.length ∧ i = .int .i64 j ∧ s = .int .i64 (degB xs j)) (fun _ i => xs.length - (intOf i).toNat)
  case atStart => exact ⟨0, Nat.zero_le _, rfl, rfl⟩
  case round =>
    obtain ⟨j, hj, rfl, rfl⟩ := hrel
    by_cases hlt : j < xs.length
    · obtain ⟨b1, o1, x, rfl, hb1, he, hc0⟩ := HS.out.at_ hlt
      have hj0 : (0 : Int) ≤ (j : Int) := Int.natCast_nonneg _
      have hj1 : (j : Int) < (xs.length : Int) := by omega
      have HD := Lib.hid (degB_step he)
      clear he
      go_wp2
      exact ⟨⟨j + 1, by omega, by go_num, by rw [HD.out]⟩, by simp [intOf]; omega⟩
    · have HJ := Lib.hid (show j = xs.length by omega)
      go_wp2
      go_ret
      exact ⟨ret_intE (by rw [HJ.out]), Below.refl _ _⟩
end Go.Proofs.Ytndncmjhpbjcoaa
