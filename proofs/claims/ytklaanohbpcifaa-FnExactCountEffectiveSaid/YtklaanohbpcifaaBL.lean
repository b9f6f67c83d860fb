/- One text out of several: Eff EffM RowsB EffR EffS EinM EffP EffW ClsF EinF ClsG SysM Neg ClsI. -/
import Derived.Test.YtklaanohbpcifaaBA
import Derived.Test.YtklaanohbpcifaaBF
import Derived.Test.YtklaanohbpcifaaSh
import Derived.Test.YtklaanohbpcifaaBG
import Derived.Deep.CutRange
import Derived.Deep.AppendLies
import Derived.Deep.RegionLaw
import Derived.Test.YtklaanohbpcifaaBB
import Derived.Test.YtklaanohbpcifaaBK
import Derived.Test.YtklaanohbpcifaaBJ
/- IsEffective: the specification's loop and the program's ContainsFunc answer one plain test of the list. -/
namespace Go.Proofs.Ytklaanohbpcifaa
open Go.RowKit

def posB (z : Int) : Bool := decide (0 ≤ z)
def posAll (xs : List Int) : Bool := xs.all posB
theorem posAll_miss {xs : List Int} {k : Nat} {z : Int} (he : xs[k]? = some z) (h : posB z = false) : posAll xs = false := by
  unfold posAll
  rw [List.all_eq_false]
  exact ⟨z, List.mem_of_getElem? he, by simp [h]⟩

theorem debt_at (w : World) : PredAt Try.prog 69 #[] (fun z : Int => .int .i64 z) (fun z => !posB z) w := by
  intro W z _
  show Calls Try.prog 69 #[.int .i64 z] W fun e w' => e = .returned (.bool (!posB z)) ∧ ∃ q, w' = W.drewN q
  by_cases h1 : z < 0
  · have H : (!posB z) = true := by simp only [posB]; rw [decide_eq_false (by omega)]; rfl
    rw [H]
    have t1 : decide (z < 0) = true := decide_eq_true h1
    clear H
    go_enter Try.func69, Try.ntmps69
    go_wp2
    go_ret
    exact ⟨rfl, 0, rfl⟩
  · have H : (!posB z) = false := by simp only [posB]; rw [decide_eq_true (by omega)]; rfl
    rw [H]
    have t1 : decide (z < 0) = false := decide_eq_false h1
    clear H h1
    go_enter Try.func69, Try.ntmps69
    go_wp2
    go_ret
    exact ⟨rfl, 0, rfl⟩
theorem debt_enters : ∀ args w, (callFunc 69 args).run Try.prog w = .ok (.enter 69 args) w := enters_of Try.func69 (by kernel_rfl) rfl
theorem contains_debt (A : Option Addr) (c B : Nat) (r : List Int) (w : World) (hn : r.length ≤ 1048576) (hS : IntS w B A r) :
    Calls Try.prog 68 #[.slice A r.length c, .func (.func 69) #[] #[]] w fun e w' => e = .returned (.bool (!posAll r)) ∧ ∃ q, w' = w.drewN q := by
  by_cases h0 : 0 < r.length
  · obtain ⟨b, off, rfl, hb, hc⟩ := hS h0
    have h := Try.slices_ContainsFunc (fun z : Int => .int .i64 z) (fun z => !posB z) 69 #[] debt_enters b off r.length c r w (debt_at w) (Nat.le_refl _) (by omega)
      (fun j hj => by rw [hc j r[j] (List.getElem?_eq_getElem hj)]; simp [getElem!_pos r j hj])
    rw [List.take_length] at h
    have e : (r.any fun z => !posB z) = !posAll r := by rw [posAll, List.not_all_eq_any_not]
    rwa [e] at h
  · obtain rfl : r = [] := by
      cases r with
      | nil => rfl
      | cons a l => simp at h0
    exact (Try.slices_ContainsFunc_empty (α := Int) A c _ w).mono fun e w' ⟨h1, h2⟩ => ⟨h1, 0, h2⟩
set_option maxHeartbeats 1000000 in
theorem implEff (A : Option Addr) (c : Nat) (xs : List Int) (w : World) (hn : xs.length ≤ 1048576) (hS : IntS w w.heap.size A xs) :
    Calls Try.prog 51 #[.slice A xs.length c] w fun e w' => e = .returned (.bool (posAll xs)) ∧ Below w.heap.size w w' := by
  have HC := Lib.hid (contains_debt A c _ xs w hn hS)
  clear hS
  go_enter Try.func51, Try.ntmps51
  go_wp2_with fail
  refine HC.out.mono ?_
  rintro e w' ⟨rfl, q, rfl⟩
  go_wp2
  go_ret
  exact ⟨ret_boolE (by simp), drewN_below w q⟩
end Go.Proofs.Ytklaanohbpcifaa

/- All effective divisors of a degree, in order: the plain math. -/
namespace Go.Proofs.Ytklaanohbpcifaa
open Go.RowKit

def effB : Nat → Int → List (List Int)
  | 0, _ => []
  | 1, k => if k < 0 then [] else [[k]]
  | n + 2, k => if k < 0 then [] else (List.range (k.toNat + 1)).flatMap fun (x : Nat) => (effB (n + 1) (k - (x : Int))).map fun r => (x : Int) :: r
/-- the first j of them by their first number -/
def effTo (n : Nat) (k : Int) (j : Nat) : List (List Int) := (List.range j).flatMap fun (x : Nat) => (effB (n + 1) (k - (x : Int))).map fun r => (x : Int) :: r
theorem effB_neg {n : Nat} {k : Int} (h : k < 0) : effB n k = [] := by
  cases n with
  | zero => rfl
  | succ n =>
    cases n with
    | zero => rw [effB, if_pos h]
    | succ n => rw [effB, if_pos h]
theorem effB_one {k : Int} (h : 0 ≤ k) : effB 1 k = [[k]] := by rw [effB, if_neg (by omega)]
theorem effB_two {n k : Nat} : effB (n + 2) (k : Int) = effTo n (k : Int) (k + 1) := by
  rw [effB, if_neg (by omega), Int.toNat_natCast]
  rfl
theorem effTo_zero (n : Nat) (k : Int) : effTo n k 0 = [] := rfl
theorem effTo_step (n : Nat) (k : Int) (j : Nat) : effTo n k (j + 1) = effTo n k j ++ (effB (n + 1) (k - (j : Int))).map fun r => (j : Int) :: r := by
  unfold effTo
  rw [List.range_succ, List.flatMap_append]
  simp
theorem effB_mem : ∀ (n : Nat) (k : Int) (r : List Int), r ∈ effB n k → r.length = n ∧ ∀ y ∈ r, 0 ≤ y ∧ y ≤ k
  | 0, _, r, h => by simp [effB] at h
  | 1, k, r, h => by
    rw [effB] at h
    split at h
    · simp at h
    · rw [List.mem_singleton] at h
      subst h
      refine ⟨rfl, fun y hy => ?_⟩
      rw [List.mem_singleton] at hy
      omega
  | n + 2, k, r, h => by
    rw [effB] at h
    split at h
    · simp at h
    · rw [List.mem_flatMap] at h
      obtain ⟨x, hx, h⟩ := h
      rw [List.mem_map] at h
      obtain ⟨p, hp, rfl⟩ := h
      rw [List.mem_range] at hx
      obtain ⟨h1, h2⟩ := effB_mem (n + 1) (k - (x : Int)) p hp
      refine ⟨by simp [h1], fun y hy => ?_⟩
      rw [List.mem_cons] at hy
      rcases hy with rfl | hy
      · omega
      · have := h2 y hy
        omega
theorem effTo_len {n : Nat} {k : Int} {B : Nat} (h : ∀ x : Nat, (effB (n + 1) (k - (x : Int))).length ≤ B) : ∀ j, (effTo n k j).length ≤ j * B
  | 0 => by simp [effTo]
  | j + 1 => by
    have := effTo_len h j
    have := h j
    rw [effTo_step, List.length_append, List.length_map, Nat.add_mul, Nat.one_mul]
    omega
theorem effB_len : ∀ (n : Nat) (k : Int), k ≤ 7 → (effB n k).length ≤ 8 ^ n
  | 0, _, _ => by simp [effB]
  | 1, k, _ => by
    rw [effB]
    split <;> simp
  | n + 2, k, h => by
    by_cases hk : k < 0
    · rw [effB_neg hk]; simp
    · obtain ⟨m, rfl⟩ : ∃ m : Nat, k = (m : Int) := ⟨k.toNat, by omega⟩
      rw [effB_two]
      have h1 := effTo_len (n := n) (k := (m : Int)) (B := 8 ^ (n + 1)) (fun x => effB_len (n + 1) _ (by omega)) (m + 1)
      have h2 : (m + 1) * 8 ^ (n + 1) ≤ 8 * 8 ^ (n + 1) := Nat.mul_le_mul_right _ (by omega)
      have h3 : 8 ^ (n + 2) = 8 * 8 ^ (n + 1) := by rw [Nat.pow_succ 8 (n + 1), Nat.mul_comm]
      omega
theorem effB_small {n : Nat} {k : Int} (hn : n ≤ 6) (hk : k ≤ 7) : (effB n k).length ≤ 262144 := by
  have h1 := effB_len n k hk
  have h2 : 8 ^ n ≤ 8 ^ 6 := Nat.pow_le_pow_right (by omega) hn
  omega
theorem effTo_small {n : Nat} {k : Int} {j : Nat} (hn : n + 2 ≤ 6) (hk : k ≤ 7) (hj : j ≤ 8) : (effTo n k j).length ≤ 262144 := by
  have h1 := effTo_len (n := n) (k := k) (B := 8 ^ (n + 1)) (fun x => effB_len (n + 1) _ (by omega)) j
  have h2 : j * 8 ^ (n + 1) ≤ 8 * 8 ^ (n + 1) := Nat.mul_le_mul_right _ (by omega)
  have h3 : 8 ^ (n + 2) = 8 * 8 ^ (n + 1) := by rw [Nat.pow_succ 8 (n + 1), Nat.mul_comm]
  have h4 : 8 ^ (n + 2) ≤ 8 ^ 6 := Nat.pow_le_pow_right (by omega) hn
  omega
theorem effB_pos : ∀ (n : Nat) (k : Int), 0 ≤ k → 0 < (effB (n + 1) k).length
  | 0, k, h => by rw [effB_one h]; simp
  | n + 1, k, h => by
    obtain ⟨m, rfl⟩ : ∃ m : Nat, k = (m : Int) := ⟨k.toNat, by omega⟩
    rw [effB_two, effTo_step, List.length_append, List.length_map]
    have := effB_pos n ((m : Int) - (m : Int)) (by omega)
    omega
/-! up to the degree 8 -/
theorem effB_lenW : ∀ (n : Nat) (k : Int), k ≤ 8 → (effB n k).length ≤ 9 ^ n
  | 0, _, _ => by simp [effB]
  | 1, k, _ => by
    rw [effB]
    split <;> simp
  | n + 2, k, h => by
    by_cases hk : k < 0
    · rw [effB_neg hk]; simp
    · obtain ⟨m, rfl⟩ : ∃ m : Nat, k = (m : Int) := ⟨k.toNat, by omega⟩
      rw [effB_two]
      have h1 := effTo_len (n := n) (k := (m : Int)) (B := 9 ^ (n + 1)) (fun x => effB_lenW (n + 1) _ (by omega)) (m + 1)
      have h2 : (m + 1) * 9 ^ (n + 1) ≤ 9 * 9 ^ (n + 1) := Nat.mul_le_mul_right _ (by omega)
      have h3 : 9 ^ (n + 2) = 9 * 9 ^ (n + 1) := by rw [Nat.pow_succ 9 (n + 1), Nat.mul_comm]
      omega
theorem effB_smallW {n : Nat} {k : Int} (hn : n ≤ 6) (hk : k ≤ 8) : (effB n k).length ≤ 531441 := by
  have h1 := effB_lenW n k hk
  have h2 : 9 ^ n ≤ 9 ^ 6 := Nat.pow_le_pow_right (by omega) hn
  omega
theorem effTo_smallW {n : Nat} {k : Int} {j : Nat} (hn : n + 2 ≤ 6) (hk : k ≤ 8) (hj : j ≤ 9) : (effTo n k j).length ≤ 531441 := by
  have h1 := effTo_len (n := n) (k := k) (B := 9 ^ (n + 1)) (fun x => effB_lenW (n + 1) _ (by omega)) j
  have h2 : j * 9 ^ (n + 1) ≤ 9 * 9 ^ (n + 1) := Nat.mul_le_mul_right _ (by omega)
  have h3 : 9 ^ (n + 2) = 9 * 9 ^ (n + 1) := by rw [Nat.pow_succ 9 (n + 1), Nat.mul_comm]
  have h4 : 9 ^ (n + 2) ≤ 9 ^ 6 := Nat.pow_le_pow_right (by omega) hn
  omega
end Go.Proofs.Ytklaanohbpcifaa

/- The declarations of other texts that this seat needs (made by tools/thin.py). -/
namespace Go.Proofs.Ytklaanohbpcifaa
open Go.RowKit

theorem QOwn.below {w w' : World} {base : Nat} {v : Value} {q : List Int} (h : QOwn w base v q) (hb : Below w.heap.size w w') : QOwn w' base v q :=
  World.ownsRow.kept h (row := none) ⟨hb.os, hb.tape, hb.output, hb.size, fun i hi _ => hb.block i hi⟩ (Classical.em _)
/-- two rows of unlike cells lie in two blocks -/
theorem own_types {w : World} {base e1 e2 s1 s2 n1 n2 : Nat} {v1 v2 : Value} {x1 x2 : List Value} (h1 : w.ownsRow base e1 s1 v1 n1 x1) (h2 : w.ownsRow base e2 s2 v2 n2 x2) (hne : e1 ≠ e2) : v1.ownBlock = none ∨ v1.ownBlock ≠ v2.ownBlock := by
  rcases h1.2 with ⟨e, _⟩ | ⟨g, cap, cur, e, _, hg, _⟩
  · left; rw [e]; rfl
  · right
    rw [e]
    rcases h2.2 with ⟨e', _⟩ | ⟨g', cap', cur', e', _, hg', _⟩
    · rw [e']; simp [Value.ownBlock]
    · rw [e']
      simp only [Value.ownBlock, ne_eq, Option.some.injEq]
      rintro rfl
      rw [hg] at hg'
      injection hg' with hg'
      injection hg' with _ ht _
      exact hne ht
/-- rows built one by one -/
def SSOwn (w : World) (base : Nat) (v : Value) (rs : List (List Int)) : Prop :=
  ∃ vs : List Value, w.ownsRow base 25 1 v rs.length vs ∧ ∀ (i : Nat) (r : List Int), rs[i]? = some r → ∃ u, vs[i]? = some u ∧ QOwn w base u r
theorem SSOwn.kept {w w' : World} {base : Nat} {v : Value} {rs : List (List Int)} (h : SSOwn w base v rs) (hb : Below w.heap.size w w') : SSOwn w' base v rs := by
  obtain ⟨vs, h1, h2⟩ := h
  refine ⟨vs, h1.kept (row := none) ⟨hb.os, hb.tape, hb.output, hb.size, fun i hi _ => hb.block i hi⟩ (Classical.em _), fun i r hr => ?_⟩
  obtain ⟨u, hu, hq⟩ := h2 i r hr
  exact ⟨u, hu, hq.below hb⟩
/-- growth of a row of ints that is not one of these -/
theorem SSOwn.rows {w : World} {base : Nat} {v : Value} {rs : List (List Int)} (h : SSOwn w base v rs) : ∃ Ar cr, v = .slice Ar rs.length cr ∧ IntSS w w.heap.size Ar rs := by
  obtain ⟨vs, h1, h2⟩ := h
  obtain ⟨hl, h3⟩ := h1
  rcases h3 with ⟨e, e0⟩ | ⟨g, cap, cur, e, hb, hg, hnc, _, hcs, htk⟩
  · refine ⟨none, 0, by rw [e, e0], fun hn => ?_⟩
    omega
  · refine ⟨some ⟨g, 0, none⟩, cap, e, fun hn => ?_⟩
    have hblk : Blk w g 25 cur := hg
    refine ⟨g, 0, rfl, hblk.lt, fun i r hr => ?_⟩
    obtain ⟨u, hu, hq⟩ := h2 i r hr
    obtain ⟨Ai, ci, rfl⟩ := hq.slice
    refine ⟨Ai, ci, ?_, hq.ints⟩
    have hi : i < rs.length := (List.getElem?_eq_some_iff.1 hr).1
    rw [hblk.cell, Nat.zero_add]
    rw [← htk, List.getElem?_take_of_lt (by omega)] at hu
    simpa using hu
/-- one more row -/
theorem SSOwn.push {w w1 : World} {base : Nat} {v v' u : Value} {rs : List (List Int)} {r : List Int} {vs : List Value} (h1 : w.ownsRow base 25 1 v rs.length vs) (h2 : ∀ (i : Nat) (r : List Int), rs[i]? = some r → ∃ u, vs[i]? = some u ∧ QOwn w base u r)
    (hr : QOwn w base u r) (ho : w1.ownsRow base 25 1 v' (rs.length + 1) (vs ++ [u])) (hg : w.grownBy w1 v.ownBlock) : SSOwn w1 base v' (rs ++ [r]) := by
  have keep : ∀ {x : Value} {p : List Int}, QOwn w base x p → QOwn w1 base x p := fun hq => World.ownsRow.kept hq hg (own_types hq h1 (by decide))
  have hl : vs.length = rs.length := by have := h1.1; omega
  refine ⟨vs ++ [u], by simpa using ho, fun i p hp => ?_⟩
  rcases Nat.lt_or_ge i rs.length with l | l
  · rw [List.getElem?_append_left l] at hp
    obtain ⟨x, hx, hq⟩ := h2 i p hp
    exact ⟨x, by rw [List.getElem?_append_left (by omega)]; exact hx, keep hq⟩
  · rw [List.getElem?_append_right l] at hp
    have hi : i - rs.length = 0 := by
      have := (List.getElem?_eq_some_iff.1 hp).1
      simp at this
      omega
    rw [hi] at hp
    simp only [List.getElem?_cons_zero, Option.some.injEq] at hp
    subst hp
    exact ⟨u, by rw [List.getElem?_append_right (by omega), hl, hi]; rfl, keep hr⟩
/-- rows, new memory, are handed back to be read -/
theorem ownsRow_mono {w : World} {base base' e s n : Nat} {v : Value} {xs : List Value} (h : w.ownsRow base e s v n xs) (hb : base' ≤ base) : w.ownsRow base' e s v n xs := by
  obtain ⟨h1, h2⟩ := h
  refine ⟨h1, ?_⟩
  rcases h2 with h2 | ⟨g, cap, cur, e1, h3, h4⟩
  · exact .inl h2
  · exact .inr ⟨g, cap, cur, e1, by omega, h4⟩
theorem rowsInfo : (Try.prog.info? 25).map (fun i => (i.zero, i.size, i.bytes)) = some (some (.slice none 0 0), 1, 24) := by kernel_rfl

theorem SSOwn.mono {w : World} {base base' : Nat} {v : Value} {rs : List (List Int)} (h : SSOwn w base v rs) (hb : base' ≤ base) : SSOwn w base' v rs := by
  obtain ⟨vs, h1, h2⟩ := h
  refine ⟨vs, ownsRow_mono h1 hb, fun i r hr => ?_⟩
  obtain ⟨u, hu, hq⟩ := h2 i r hr
  exact ⟨u, hu, ownsRow_mono hq hb⟩
/-- rows built one by one are handed back -/
def GivesOwn (w : World) (rs : List (List Int)) (e : Ending) (w' : World) : Prop := ∃ v, e = .returned v ∧ SSOwn w' w.heap.size v rs ∧ Below w.heap.size w w'
theorem own_emptyD (w : World) (base : Nat) (hb : base ≤ w.heap.size) (t : TypeId) : (w.alloc (.cells #[] t)).ownsRow base t 1 (.slice (some ⟨w.heap.size, 0, none⟩) 0 0) 0 [] :=
  ⟨rfl, .inr ⟨w.heap.size, 0, #[], rfl, hb, heap_alloc_new w _, Nat.le_refl _, Nat.zero_le _, rfl, rfl⟩⟩
section
variable {P : Program} {w : World}
end
theorem own_types2 {w : World} {base base2 e1 e2 s1 s2 n1 n2 : Nat} {v1 v2 : Value} {x1 x2 : List Value} (h1 : w.ownsRow base e1 s1 v1 n1 x1) (h2 : w.ownsRow base2 e2 s2 v2 n2 x2) (hne : e1 ≠ e2) : v1.ownBlock = none ∨ v1.ownBlock ≠ v2.ownBlock :=
  own_types (ownsRow_mono h1 (Nat.zero_le _)) (ownsRow_mono h2 (Nat.zero_le _)) hne
/-- rows built one by one: the outer row from b1 on, the inner ones from b2 on -/
def SSOwn2 (w : World) (b1 b2 : Nat) (v : Value) (rs : List (List Int)) : Prop :=
  ∃ vs : List Value, w.ownsRow b1 25 1 v rs.length vs ∧ ∀ (i : Nat) (r : List Int), rs[i]? = some r → ∃ u, vs[i]? = some u ∧ QOwn w b2 u r
theorem SSOwn2.one {w : World} {b1 b2 : Nat} {v : Value} {rs : List (List Int)} (h : SSOwn2 w b1 b2 v rs) (hb : b1 ≤ b2) : SSOwn w b1 v rs := by
  obtain ⟨vs, h1, h2⟩ := h
  refine ⟨vs, h1, fun i r hr => ?_⟩
  obtain ⟨u, hu, hq⟩ := h2 i r hr
  exact ⟨u, hu, ownsRow_mono hq hb⟩
theorem SSOwn2.push {w w1 : World} {b1 b2 : Nat} {v v' u : Value} {rs : List (List Int)} {r : List Int} {vs : List Value} (h1 : w.ownsRow b1 25 1 v rs.length vs) (h2 : ∀ (i : Nat) (r : List Int), rs[i]? = some r → ∃ u, vs[i]? = some u ∧ QOwn w b2 u r)
    (hr : QOwn w b2 u r) (ho : w1.ownsRow b1 25 1 v' (rs.length + 1) (vs ++ [u])) (hg : w.grownBy w1 v.ownBlock) : SSOwn2 w1 b1 b2 v' (rs ++ [r]) := by
  have keep : ∀ {x : Value} {p : List Int}, QOwn w b2 x p → QOwn w1 b2 x p := fun hq => World.ownsRow.kept hq hg (own_types2 hq h1 (by decide))
  have hl : vs.length = rs.length := by have := h1.1; omega
  refine ⟨vs ++ [u], by simpa using ho, fun i p hp => ?_⟩
  rcases Nat.lt_or_ge i rs.length with l | l
  · rw [List.getElem?_append_left l] at hp
    obtain ⟨x, hx, hq⟩ := h2 i p hp
    exact ⟨x, by rw [List.getElem?_append_left (by omega)]; exact hx, keep hq⟩
  · rw [List.getElem?_append_right l] at hp
    have hi : i - rs.length = 0 := by
      have := (List.getElem?_eq_some_iff.1 hp).1
      simp at this
      omega
    rw [hi] at hp
    simp only [List.getElem?_cons_zero, Option.some.injEq] at hp
    subst hp
    exact ⟨u, by rw [List.getElem?_append_right (by omega), show i - vs.length = 0 by omega]; rfl, keep hr⟩
/-- one row of rows built one by one, to be read -/
theorem SSOwn.at_ {w : World} {base : Nat} {v : Value} {rs : List (List Int)} {a : Nat} {r : List Int} (h : SSOwn w base v rs) (hr : rs[a]? = some r) (hz : 0 < r.length) :
    ∃ (g cap b c : Nat), v = .slice (some ⟨g, 0, none⟩) rs.length cap ∧ base ≤ g ∧ g < w.heap.size ∧ w.cell? ⟨g, a, none⟩ = some (.slice (some ⟨b, 0, none⟩) r.length c) ∧ r.length ≤ c ∧ base ≤ b ∧ b < w.heap.size ∧ ∀ (i : Nat) (x : Int), r[i]? = some x → w.cell? ⟨b, i, none⟩ = some (.int .i64 x) := by
  obtain ⟨vs, h1, h2⟩ := h
  obtain ⟨u, hu, hq⟩ := h2 a r hr
  have hal : a < rs.length := (List.getElem?_eq_some_iff.1 hr).1
  rcases h1.2 with ⟨_, e0⟩ | ⟨g, cap, cur, e, hb, hg, hnc, _, hcs, htk⟩
  · omega
  · have hob : v.ownBlock = some g := by rw [e]; rfl
    have hc := h1.cells hob a u hu
    rw [Addr.add_lit, Nat.zero_add] at hc
    rcases hq.2 with ⟨_, e0⟩ | ⟨b, c, cur2, e2, hb2, hg2, hnc2, _, _, _⟩
    · omega
    · refine ⟨g, cap, b, c, e, hb, (h1.lt g hob).2, by rw [hc, e2], hnc2, hb2, (World.ownsRow.lt hq b (by rw [e2]; rfl)).2, fun i x hx => ?_⟩
      have := World.ownsRow.cells hq (by rw [e2]; rfl) i (.int .i64 x) (by simp [intCells, hx])
      rwa [Addr.add_lit, Nat.zero_add] at this
theorem SSOwn2.keep {w w' : World} {b1 b2 : Nat} {v : Value} {rs : List (List Int)} (h : SSOwn2 w b1 b2 v rs) (hb : Below w.heap.size w w') : SSOwn2 w' b1 b2 v rs := by
  obtain ⟨vs, h1, h2⟩ := h
  refine ⟨vs, h1.kept (row := none) ⟨hb.os, hb.tape, hb.output, hb.size, fun i hi _ => hb.block i hi⟩ (Classical.em _), fun i r hr => ?_⟩
  obtain ⟨u, hu, hq⟩ := h2 i r hr
  exact ⟨u, hu, hq.below hb⟩
/-- a row of ints that grows, itself new, leaves what lay before it -/
theorem grown_below {W w1 : World} {B : Nat} {row : Option Nat} (hg : W.grownBy w1 row) (hB : B ≤ W.heap.size) (hr : ∀ k, row = some k → B ≤ k) : Below B W w1 :=
  ⟨hg.os, hg.tape, hg.output, hg.size, fun i hi => hg.block i (by omega) (fun e => by have := hr i e.symm; omega)⟩
theorem own_sl {w : World} {base n s : Nat} {e : TypeId} {v : Value} {xs : List Value} (h : w.ownsRow base e s v n xs) : ∃ (A : Option Addr) (m c : Nat), v = .slice A m c := by
  rcases h.2 with ⟨h1, _⟩ | ⟨g, cap, cur, h1, _⟩
  · exact ⟨none, 0, 0, h1⟩
  · exact ⟨_, n, cap, h1⟩
theorem own_one {w : World} {base n s : Nat} {e : TypeId} {v : Value} {xs : List Value} (h : w.ownsRow base e s v n xs) : v.oneCell' = true := by
  rcases h.2 with ⟨h1, _⟩ | ⟨g, cap, cur, h1, _⟩ <;> rw [h1] <;> rfl
/-- .. the values told -/
def SSOwnV (w : World) (base : Nat) (v : Value) (vs : List Value) (rs : List (List Int)) : Prop :=
  w.ownsRow base 25 1 v rs.length vs ∧ ∀ (i : Nat) (r : List Int), rs[i]? = some r → ∃ u, vs[i]? = some u ∧ QOwn w base u r
theorem SSOwnV.one {w : World} {base : Nat} {v : Value} {vs : List Value} {rs : List (List Int)} (h : SSOwnV w base v vs rs) : SSOwn w base v rs := ⟨vs, h.1, h.2⟩
theorem SSOwnV.keep {w w' : World} {base : Nat} {v : Value} {vs : List Value} {rs : List (List Int)} (h : SSOwnV w base v vs rs) (hb : Below w.heap.size w w') : SSOwnV w' base v vs rs := by
  obtain ⟨h1, h2⟩ := h
  refine ⟨h1.kept (row := none) ⟨hb.os, hb.tape, hb.output, hb.size, fun i hi _ => hb.block i hi⟩ (Classical.em _), fun i r hr => ?_⟩
  obtain ⟨u, hu, hq⟩ := h2 i r hr
  exact ⟨u, hu, hq.below hb⟩
theorem SSOwnV.far {w w1 : World} {base b1 n : Nat} {v out : Value} {us : List Value} {rs : List (List Int)} {xs : List Value} (h : SSOwnV w base v us rs) (ho : w.ownsRow b1 25 1 out n xs) (hne : v.ownBlock ≠ out.ownBlock) (hg : w.grownBy w1 out.ownBlock) : SSOwnV w1 base v us rs := by
  obtain ⟨h1, h2⟩ := h
  refine ⟨h1.kept hg (.inr hne), fun i r hr => ?_⟩
  obtain ⟨u, hu, hq⟩ := h2 i r hr
  exact ⟨u, hu, World.ownsRow.kept hq hg (own_types2 hq ho (by decide))⟩
end Go.Proofs.Ytklaanohbpcifaa

/- Rows that are made while rows that another call has made are read. -/
namespace Go.Proofs.Ytklaanohbpcifaa
open Go.RowKit

/-- the first row lies elsewhere -/
def FarV (vs : List Value) (lo hi : Nat) : Prop := ∀ u, vs[0]? = some u → ∃ (y o n c : Nat), u = .slice (some ⟨y, o, none⟩) n c ∧ (y < lo ∨ hi ≤ y)
theorem QOwn.far {w : World} {base : Nat} {v : Value} {r : List Int} (h : QOwn w base v r) (hr : 0 < r.length) : ∃ (y c : Nat), v = .slice (some ⟨y, 0, none⟩) r.length c ∧ base ≤ y ∧ y < w.heap.size := by
  rcases h.2 with ⟨_, e⟩ | ⟨g, cap, cur, e, hb, hg, _⟩
  · omega
  · exact ⟨g, cap, e, hb, (World.ownsRow.lt h g (by rw [e]; rfl)).2⟩
theorem eff_step {w0 wr w2 : World} {lo hi gL x0 o0 n0 c0 : Nat} {vL vOut v2 : Value} {L rs : List (List Int)} {r : List Int} {vs vsL : List Value}
    (hb : Below w0.heap.size w0 wr) (ho1 : wr.ownsRow w0.heap.size 25 1 vOut rs.length vs) (ho2 : ∀ (i : Nat) (r : List Int), rs[i]? = some r → ∃ u, vs[i]? = some u ∧ QOwn wr w0.heap.size u r)
    (hne : vOut.ownBlock ≠ some gL) (hL : SSOwnV wr lo vL vsL L) (hvL : vL.ownBlock = some gL) (hfar : FarV vs lo hi)
    (hcL : wr.cell? ⟨gL, 0, none⟩ = some (.slice (some ⟨x0, o0, none⟩) n0 c0)) (hx0 : lo ≤ x0) (hx1 : x0 < hi) (hhi : hi ≤ wr.heap.size)
    (bC : Below wr.heap.size wr w2) (kq2 : QOwn w2 wr.heap.size v2 r) (hr : 0 < r.length) :
    (w2.alloc (Obj.cells #[v2] 25)).ownsRow w0.heap.size 25 1 vOut rs.length vs ∧ w0.heap.size ≤ (w2.alloc (Obj.cells #[v2] 25)).heap.size ∧
    ∀ (w4 : World) (v' : Value), (w4.ownsRow w0.heap.size 25 1 v' (rs.length + 1) (vs ++ [v2])) → World.grownBy (w2.alloc (Obj.cells #[v2] 25)) w4 vOut.ownBlock →
      (w4.ownsRow w0.heap.size 25 1 v' (rs ++ [r]).length (vs ++ [v2]) ∧ (∀ (i : Nat) (p : List Int), (rs ++ [r])[i]? = some p → ∃ u, (vs ++ [v2])[i]? = some u ∧ QOwn w4 w0.heap.size u p)) ∧
      v'.ownBlock ≠ some gL ∧ SSOwnV w4 lo vL vsL L ∧ Below w0.heap.size w0 w4 ∧ hi ≤ w4.heap.size ∧ w4.cell? ⟨gL, 0, none⟩ = some (.slice (some ⟨x0, o0, none⟩) n0 c0) ∧ FarV (vs ++ [v2]) lo hi := by
  have bD : Below wr.heap.size wr (w2.alloc (Obj.cells #[v2] 25)) := bC.alloc bC.size _
  have s3 := bD.size
  have sb := hb.size
  have k1 := ho1.kept (row := none) ⟨bD.os, bD.tape, bD.output, bD.size, fun i hi _ => bD.block i hi⟩ (Classical.em _)
  have kq : QOwn (w2.alloc (Obj.cells #[v2] 25)) w0.heap.size v2 r := ownsRow_mono (World.ownsRow.alloc kq2 _) sb
  have hl : vs.length = rs.length := by have := ho1.1; omega
  refine ⟨k1, by omega, fun w4 v' o4 g4 => ?_⟩
  have keep : ∀ {x : Value} {p : List Int}, QOwn (w2.alloc (Obj.cells #[v2] 25)) w0.heap.size x p → QOwn w4 w0.heap.size x p := fun hq => World.ownsRow.kept hq g4 (own_types hq k1 (by decide))
  have hF : FarV (vs ++ [v2]) lo hi := fun u hu => by
    cases vs with
    | nil =>
      simp only [List.nil_append, List.getElem?_cons_zero, Option.some.injEq] at hu
      subst hu
      obtain ⟨y, c, e, h1, h2⟩ := kq2.far hr
      exact ⟨y, 0, _, c, e, .inr (by omega)⟩
    | cons z zs => exact hfar u (by simpa using hu)
  have hgl : gL < wr.heap.size := (hL.1.lt gL hvL).2
  have hc3 : (w2.alloc (Obj.cells #[v2] 25)).cell? ⟨gL, 0, none⟩ = some (.slice (some ⟨x0, o0, none⟩) n0 c0) := (bD.cell (p := ⟨gL, 0, none⟩) hgl).trans hcL
  have hc4 : w4.cell? ⟨gL, 0, none⟩ = some (.slice (some ⟨x0, o0, none⟩) n0 c0) := (World.cell?_of_block (a := ⟨gL, 0, none⟩) (g4.block gL (by omega) (fun e => hne e.symm))).trans hc3
  have hL3 := hL.keep bD
  refine ⟨⟨by simpa using o4, fun i p hp => ?_⟩, fun e => ?_, hL3.far k1 (by rw [hvL]; exact fun e => hne e.symm) g4, (hb.trans (bD.mono sb)).grown g4 (by omega) (fun k e => (ho1.lt k e).1), ?_, hc4, hF⟩
  · rcases Nat.lt_or_ge i rs.length with l | l
    · rw [List.getElem?_append_left l] at hp
      obtain ⟨x, hx, hq⟩ := ho2 i p hp
      exact ⟨x, by rw [List.getElem?_append_left (by omega)]; exact hx, keep (hq.below bD)⟩
    · rw [List.getElem?_append_right l] at hp
      have hi : i - rs.length = 0 := by
        have := (List.getElem?_eq_some_iff.1 hp).1
        simp at this
        omega
      rw [hi] at hp
      simp only [List.getElem?_cons_zero, Option.some.injEq] at hp
      subst hp
      exact ⟨v2, by rw [List.getElem?_append_right (by omega), show i - vs.length = 0 by omega]; rfl, keep kq⟩
  · obtain ⟨u, hu⟩ : ∃ u, (vs ++ [v2])[0]? = some u := ⟨_, List.getElem?_eq_getElem (by simp)⟩
    have h1 := o4.cells e 0 u hu
    rw [Addr.add_lit, Nat.add_zero, hc4] at h1
    obtain ⟨y, o, n, c, rfl, h2⟩ := hF u hu
    injection h1 with h1
    injection h1 with h1 _ _
    injection h1 with h1
    injection h1 with h1 _ _
    omega
  · have := g4.size
    omega
end Go.Proofs.Ytklaanohbpcifaa

/- l06Effective: the specification's rows. -/
namespace Go.Proofs.Ytklaanohbpcifaa
open Go.RowKit

theorem own_single (w : World) (u : Value) (t : TypeId) : (w.alloc (.cells #[u] t)).ownsRow w.heap.size t 1 (.slice (some ⟨w.heap.size, 0, none⟩) 1 1) 1 [u] :=
  ⟨rfl, .inr ⟨w.heap.size, 1, #[u], rfl, Nat.le_refl _, heap_alloc_new w _, Nat.le_refl _, by decide, rfl, rfl⟩⟩
theorem own_single2 (w : World) (u v : Value) (t s : TypeId) : ((w.alloc (.cells #[u] s)).alloc (.cells #[v] t)).ownsRow w.heap.size t 1 (.slice (some ⟨w.heap.size + 1, 0, none⟩) 1 1) 1 [v] := by
  have h := own_single (w.alloc (.cells #[u] s)) v t
  have hs : (w.alloc (.cells #[u] s)).heap.size = w.heap.size + 1 := by simp
  rw [hs] at h
  exact ownsRow_mono h (by omega)
theorem effTo_mem {n : Nat} {k : Int} {j : Nat} {r : List Int} (h : r ∈ effTo n k j) : 0 < r.length := by
  unfold effTo at h
  rw [List.mem_flatMap] at h
  obtain ⟨x, _, h⟩ := h
  rw [List.mem_map] at h
  obtain ⟨p, _, rfl⟩ := h
  simp
/-- the rows made so far in a round -/
def effIn (n : Nat) (k : Int) (j t : Nat) : List (List Int) := effTo n k j ++ ((effB (n + 1) (k - (j : Int))).take t).map fun r => (j : Int) :: r
theorem effIn_zero (n : Nat) (k : Int) (j : Nat) : effIn n k j 0 = effTo n k j := by simp [effIn]
theorem effIn_step {n : Nat} {k : Int} {j t : Nat} {r : List Int} (h : (effB (n + 1) (k - (j : Int)))[t]? = some r) : effIn n k j (t + 1) = effIn n k j t ++ [(j : Int) :: r] := by
  rw [effIn, effIn, List.take_add_one, h]
  simp
theorem effIn_all {n : Nat} {k : Int} {j t : Nat} (h : (effB (n + 1) (k - (j : Int))).length ≤ t) : effIn n k j t = effTo n k (j + 1) := by rw [effIn, List.take_of_length_le h, effTo_step]
theorem effIn_len {n : Nat} {k : Int} {j : Nat} (t : Nat) (hn : n + 2 ≤ 6) (hk : k ≤ 8) (hj : j + 1 ≤ 9) : (effIn n k j t).length ≤ 531441 := by
  have h1 := effTo_smallW (k := k) hn hk hj
  rw [effTo_step, List.length_append, List.length_map] at h1
  have h2 : ((effB (n + 1) (k - (j : Int))).take t).length ≤ (effB (n + 1) (k - (j : Int))).length := by rw [List.length_take]; omega
  rw [effIn, List.length_append, List.length_map]
  omega
/-- what a round of the inner loop holds -/
structure EffI (w wq : World) (lo hi gL x0 n0 c0 : Nat) (vL v : Value) (vsL : List Value) (L rs : List (List Int)) : Prop where
  old : Below w.heap.size w wq
  out : ∃ vs, wq.ownsRow w.heap.size 25 1 v rs.length vs ∧ (∀ (i : Nat) (r : List Int), rs[i]? = some r → ∃ u, vs[i]? = some u ∧ QOwn wq w.heap.size u r) ∧ FarV vs lo hi
  ne : v.ownBlock ≠ some gL
  L : SSOwnV wq lo vL vsL L
  cell : wq.cell? ⟨gL, 0, none⟩ = some (.slice (some ⟨x0, 0, none⟩) n0 c0)
  hi : hi ≤ wq.heap.size
theorem EffI.start {w wo w1 : World} {v v1 : Value} {L : List (List Int)} {n j kk : Nat} (ho : SSOwn wo w.heap.size v (effTo n (kk : Int) j)) (hb : Below w.heap.size w wo) (hL : SSOwn w1 wo.heap.size v1 L) (hb1 : Below wo.heap.size wo w1) (hp : 0 < L.length) (hr : ∀ r ∈ L, 0 < r.length) :
    ∃ (gL cL x0 n0 c0 : Nat) (vsL : List Value), v1 = .slice (some ⟨gL, 0, none⟩) L.length cL ∧ wo.heap.size ≤ x0 ∧ x0 < w1.heap.size ∧ EffI w w1 wo.heap.size w1.heap.size gL x0 n0 c0 v1 v vsL L (effTo n (kk : Int) j) := by
  obtain ⟨vsL, hL1, hL2⟩ := hL
  obtain ⟨gL, capL, x0, cx0, e, hgL1, hgL2, hcL, hcc, hx1, hx2, _⟩ := SSOwn.at_ ⟨vsL, hL1, hL2⟩ (List.getElem?_eq_getElem hp) (hr _ (List.getElem_mem hp))
  have ho2 := ho.kept hb1
  obtain ⟨vs, hs1, hs2⟩ := ho
  obtain ⟨vs', hs1', hs2'⟩ := ho2
  refine ⟨gL, capL, x0, _, cx0, vsL, e, hx1, hx2, hb.trans (hb1.mono hb.size), ?_, fun e => ?_, ⟨hL1, hL2⟩, hcL, Nat.le_refl _⟩
  · have k1 := hs1.kept (row := none) ⟨hb1.os, hb1.tape, hb1.output, hb1.size, fun i hi _ => hb1.block i hi⟩ (Classical.em _)
    refine ⟨vs, k1, fun i r h => ?_, fun u hu => ?_⟩
    · obtain ⟨u, hu, hq⟩ := hs2 i r h
      exact ⟨u, hu, hq.below hb1⟩
    · have hl : vs.length = (effTo n (kk : Int) j).length := by have := hs1.1; omega
      have hlt := (List.getElem?_eq_some_iff.1 hu).1
      have hp := List.getElem?_eq_getElem (l := effTo n (kk : Int) j) (i := 0) (by omega)
      obtain ⟨u', hu', hq⟩ := hs2 0 _ hp
      rw [hu] at hu'
      injection hu' with hu'
      subst hu'
      obtain ⟨y, c, e, h1, h2⟩ := hq.far (effTo_mem (List.mem_of_getElem? hp))
      exact ⟨y, 0, _, c, e, .inl h2⟩
  · have := (hs1.lt gL e).2
    omega
set_option maxRecDepth 100000 in
set_option maxHeartbeats 4000000 in
theorem specEfflW : ∀ (m : Nat) (k : Int) (w : World), m ≤ 6 → -1000 ≤ k → k ≤ 8 →
    Calls Try.prog 20 #[.int .i64 (m : Int), .int .i64 k] w (GivesOwn w (effB m k)) := by
  obtain ⟨i0, hi, hz0, hz1, hz2⟩ := info_parts intInfo
  obtain ⟨i1, hj, hy0, hy1, hy2⟩ := info_parts rowsInfo
  intro m
  induction m with
  | zero =>
    intro k w hm hk0 hk1
    by_cases hk : k < 0
    · go_enter Try.func20, Try.ntmps20
      go_wp2
      go_ret
      exact ⟨_, rfl, ⟨[], ⟨rfl, .inl ⟨rfl, rfl⟩⟩, fun i r h => by simp [effB] at h⟩, Below.refl _ _⟩
    · go_enter Try.func20, Try.ntmps20
      go_wp2
      go_ret
      exact ⟨_, rfl, ⟨[], ⟨rfl, .inl ⟨rfl, rfl⟩⟩, fun i r h => by simp [effB] at h⟩, Below.refl _ _⟩
  | succ m ih =>
    intro k w hm hk0 hk1
    obtain ⟨M, hM⟩ : ∃ M : Nat, M = m + 1 := ⟨_, rfl⟩
    rw [← hM]
    have hM0 : ¬ ((M : Int) = 0) := by omega
    have hM6 : (M : Int) ≤ 6 := by omega
    by_cases hk : k < 0
    · rw [effB_neg hk]
      clear ih hM
      go_enter Try.func20, Try.ntmps20
      go_wp2
      go_ret
      exact ⟨_, rfl, ⟨[], ⟨rfl, .inl ⟨rfl, rfl⟩⟩, fun i r h => by simp at h⟩, Below.refl _ _⟩
    · obtain ⟨kk, rfl⟩ : ∃ kk : Nat, k = (kk : Int) := ⟨k.toNat, by omega⟩
      cases m with
      | zero =>
        rw [hM, effB_one (by omega)]
        clear ih
        subst hM
        go_enter Try.func20, Try.ntmps20
        go_wp2
        go_ret
        have hb1 : Below w.heap.size w (w.alloc (.cells #[.int .i64 (kk : Int)] 3)) := (Below.refl _ _).alloc (Nat.le_refl _) _
        exact ⟨_, rfl, ⟨[.slice (some ⟨w.heap.size, 0, none⟩) 1 1], own_single2 w _ _ _ _, fun i r h => by
          have hi : i = 0 := by
            have := (List.getElem?_eq_some_iff.1 h).1
            simp at this
            omega
          subst hi
          simp only [List.getElem?_cons_zero, Option.some.injEq] at h
          subst h
          exact ⟨_, rfl, World.ownsRow.alloc (own_single w _ _) _⟩⟩, hb1.alloc hb1.size _⟩
      | succ n =>
        have hM1 : ¬ ((M : Int) = 1) := by omega
        have hM2 : (2 : Int) ≤ (M : Int) := by omega
        have hn6 : n + 2 ≤ 6 := by omega
        have IH := fun (j : Nat) (hj : j ≤ kk) (W : World) => Lib.hid (show Calls Try.prog 20 #[.int .i64 ((M : Int) - 1), .int .i64 ((kk : Int) - (j : Int))] W (GivesOwn W (effB (n + 1) ((kk : Int) - (j : Int)))) by
          have h9 := ih ((kk : Int) - (j : Int)) W (by omega) (by omega) (by omega)
          rw [show ((M : Int) - 1) = ((n + 1 : Nat) : Int) by omega]
          exact h9)
        rw [show effB M (kk : Int) = effTo n (kk : Int) (kk + 1) by rw [hM]; exact effB_two]
        clear ih hM
        go_enter Try.func20, Try.ntmps20
        go_wp2
        go_loopw [5, 6] (fun v i wr => ∃ j : Nat, j ≤ kk + 1 ∧ i = .int .i64 j ∧ SSOwn wr w.heap.size v (effTo n (kk : Int) j) ∧ Below w.heap.size w wr) (fun _ i _ => kk + 1 - (intOf i).toNat)
        case atStart =>
          exact ⟨0, Nat.zero_le _, rfl, ⟨[], own_emptyD w _ (Nat.le_refl _) _, fun i r h => by simp [effTo_zero] at h⟩, (Below.refl _ _).alloc (Nat.le_refl _) _⟩
        case round =>
          obtain ⟨j, hjk, rfl, hso, hb⟩ := hrel
          have HSO := Lib.hid hso
          have HB := Lib.hid hb
          clear hso hb
          have hj0 : (0 : Int) ≤ (j : Int) := Int.natCast_nonneg _
          by_cases hlt : j ≤ kk
          · have hj1 : (j : Int) ≤ (kk : Int) := by omega
            have hj2 : (kk : Int) ≤ 8 := by omega
            have HC := IH j hlt wr
            obtain ⟨wo, rfl⟩ : ∃ x : World, x = wr := ⟨_, rfl⟩
            go_wp2_with fail
            refine HC.out.mono ?_
            rintro e w1 ⟨v1, rfl, hL, hb1⟩
            have HM := Lib.hid (fun (r : List Int) (h : r ∈ effB (n + 1) ((kk : Int) - (j : Int))) => (effB_mem _ _ r h).1)
            have hLs := effB_smallW (n := n + 1) (k := (kk : Int) - (j : Int)) (by omega) (by omega)
            have HST := fun t => Lib.hid (fun (r : List Int) (h : (effB (n + 1) ((kk : Int) - (j : Int)))[t]? = some r) => effIn_step h)
            have HAL := Lib.hid (fun t (h : (effB (n + 1) ((kk : Int) - (j : Int))).length ≤ t) => effIn_all (n := n) (k := (kk : Int)) (j := j) h)
            have hIL := fun t => effIn_len (k := (kk : Int)) (j := j) t hn6 hj2 (by omega)
            obtain ⟨gL, cL, x0, n0, c0, vsL, rfl, hx0, hx1, hI⟩ := EffI.start HSO.out HB.out hL hb1 (effB_pos n _ (by omega)) (fun r h => by rw [HM.out r h]; omega)
            rw [← effIn_zero] at hI
            obtain ⟨L, hLe⟩ : ∃ L, L = effB (n + 1) ((kk : Int) - (j : Int)) := ⟨_, rfl⟩
            rw [← hLe] at hI hLs HM HST HAL ⊢
            obtain ⟨R, hR⟩ : ∃ R : Nat → List (List Int), R = effIn n (kk : Int) j := ⟨_, rfl⟩
            rw [← hR] at hI HST HAL hIL
            obtain ⟨lo, hlo⟩ : ∃ lo, lo = wo.heap.size := ⟨_, rfl⟩
            obtain ⟨hh, hhh⟩ : ∃ hh, hh = w1.heap.size := ⟨_, rfl⟩
            rw [← hlo, ← hhh] at hI
            rw [← hlo] at hx0
            rw [← hhh] at hx1
            have HI := Lib.hid hI
            clear HSO HB hL hb1 hLe hR hlo hhh IH hI HC
            go_wp2
            go_loopw [5, 8, 33] (fun v _ i wq => ∃ t : Nat, t ≤ L.length ∧ i = .int .i64 t ∧ EffI w wq lo hh gL x0 n0 c0 (.slice (some ⟨gL, 0, none⟩) L.length cL) v vsL L (R t)) (fun _ _ i _ => L.length - (intOf i).toNat)
            case atStart => exact ⟨0, Nat.zero_le _, rfl, HI.out⟩
            case round =>
              clear HI
              obtain ⟨t, htL, rfl, hI⟩ := hrel
              have HI := Lib.hid hI
              clear hI
              have ht0 : (0 : Int) ≤ (t : Int) := Int.natCast_nonneg _
              by_cases htl : t < L.length
              · have ht1 : (t : Int) < (L.length : Int) := by omega
                obtain ⟨r, hr⟩ : ∃ r, L[t]? = some r := ⟨_, List.getElem?_eq_getElem htl⟩
                have hrl : r.length = n + 1 := HM.out r (List.mem_of_getElem? hr)
                obtain ⟨g', cap', b, cb, hv, h94, hgl, hcell, hcap, h95, hbl, hcells⟩ := HI.out.L.one.at_ hr (by omega)
                injection hv with hv1 _ hv3
                injection hv1 with hv1
                injection hv1 with hv1
                subst hv1
                have hc2 := (HST t).out r hr
                have hbA : Below wr.heap.size wr (wr.alloc (Obj.cells #[.int .i64 (j : Int)] 3)) := (Below.refl _ _).alloc (Nat.le_refl _) _
                have HN1 := Lib.hid (show ∀ (i : Nat) (u : Value), (intCells r)[i]? = some u → (wr.alloc (Obj.cells #[.int .i64 (j : Int)] 3)).cell? ((⟨b, 0, none⟩ : Addr).add i) = some u from fun i u hu => by
                  simp only [intCells, List.getElem?_map, Option.map_eq_some_iff] at hu
                  obtain ⟨z, hz, rfl⟩ := hu
                  rw [Addr.add_lit, Nat.zero_add]
                  exact (hbA.cell (p := ⟨b, i, none⟩) (by simp only; omega)).trans (hcells i z hz))
                have HG1 := Lib.hid (show (intCells r).length = r.length * 1 by simp [intCells])
                have HG2 := Lib.hid (show ∀ u ∈ intCells r, u.oneCell' = true from fun u hu => by
                  simp only [intCells, List.mem_map] at hu
                  obtain ⟨z, _, rfl⟩ := hu
                  rfl)
                have g3 : 1 + r.length ≤ maxLen := by unfold maxLen; omega
                have g4 : (1 + r.length) * 8 ≤ 140737488355328 := by omega
                have g5 : wr.heap.size ≤ (wr.alloc (Obj.cells #[.int .i64 (j : Int)] 3)).heap.size := hbA.size
                have hRl := hIL t
                have n3 : (R t).length + 1 ≤ maxLen := by unfold maxLen; omega
                have n4 : ((R t).length + 1) * 24 ≤ 140737488355328 := by omega
                have HR := Lib.hid hc2
                have HRL := Lib.hid hrl
                clear hv3 hcells h94 h95 hc2 hr hrl
                go_wp2_with (at_builtin; refine wpList_append_own _ rfl _ _ 25 rfl wr.heap.size 3 i0 (.int .i64 0) 1 8 Try.underlying25 hi hz0 hz1 hz2 rfl (by decide) _ _ _ rfl (own_single wr _ _) ⟨b, 0, none⟩ _ _ (intCells r) rfl HG1.out HN1.out HG2.out g3 g4 g5 ?_)
                intro v2 w2 hown2 hgrow2 _
                have bC : Below wr.heap.size wr w2 := hbA.grown hgrow2 g5 (fun q hq => ((own_single wr (.int .i64 (j : Int)) 3).lt q hq).1)
                have kq2 : QOwn w2 wr.heap.size v2 ((j : Int) :: r) := by
                  rw [Nat.add_comm] at hown2
                  exact hown2
                obtain ⟨A2, m2, c2, rfl⟩ := own_sl hown2
                obtain ⟨vs, hs1, hs2, hfar⟩ := HI.out.out
                obtain ⟨k1, k2, k3⟩ := eff_step HI.out.old hs1 hs2 HI.out.ne HI.out.L rfl hfar HI.out.cell hx0 hx1 HI.out.hi bC kq2 (by simp)
                have K1 := Lib.hid k1
                have K3 := Lib.hid k3
                clear k1 k3 hs1 hs2 hfar kq2 hown2 hgrow2 bC HN1 HG1 HG2 hcell
                go_wp2_with (at_builtin; refine wpList_append_own _ rfl _ _ 37 rfl w.heap.size 25 i1 (.slice none 0 0) 1 24 Try.underlying37 hj hy0 hy1 hy2 rfl (by decide) _ _ _ rfl K1.out ⟨w2.heap.size, 0, none⟩ 1 1 [_] rfl rfl (one_cell _ _ rfl _ _) (fun u hu => by rw [List.mem_singleton] at hu; rw [hu]; rfl) n3 n4 k2 ?_)
                intro v3 w4 hown3 hgrow3 _
                obtain ⟨⟨e1, e2⟩, e3, e4, e5, e6, e7, e8⟩ := K3.out w4 v3 hown3 hgrow3
                rw [← HR.out] at e1 e2
                have HF := Lib.hid (show EffI w w4 lo hh gL x0 n0 c0 (.slice (some ⟨gL, 0, none⟩) L.length cL) v3 vsL L (R (t + 1)) from ⟨e5, ⟨_, e1, e2, e8⟩, e3, e4, e7, e6⟩)
                clear e1 e2 e3 e4 e5 e6 e7 e8 hown3 hgrow3 K1 K3 HR
                go_wp2
                exact ⟨⟨t + 1, by omega, by go_num, HF.out⟩, by simp [intOf]; omega⟩
              · have ht1 : ¬ ((t : Int) < (L.length : Int)) := by omega
                have HE := Lib.hid (show SSOwn wr w.heap.size u5 (effTo n (kk : Int) (j + 1)) by
                  obtain ⟨vs, hs1, hs2, _⟩ := HI.out.out
                  rw [HAL.out t (by omega)] at hs1 hs2
                  exact ⟨vs, hs1, hs2⟩)
                have HB := Lib.hid HI.out.old
                clear HI HM HST HAL
                go_wp2
                exact ⟨⟨j + 1, by omega, by go_num, HE.out, HB.out⟩, by simp [intOf]; omega⟩
          · have hj1 : ¬ ((j : Int) ≤ (kk : Int)) := by omega
            have HE := Lib.hid (show SSOwn wr w.heap.size u5 (effTo n (kk : Int) (kk + 1)) by rw [show kk + 1 = j by omega]; exact HSO.out)
            clear HSO
            go_wp2
            go_ret
            exact ⟨_, rfl, HE.out, HB.out⟩
/-- .. up to the degree that is listed -/
theorem specEffl (m : Nat) (k : Int) (w : World) (hm : m ≤ 6) (h0 : -1000 ≤ k) (h1 : k ≤ 7) :
    Calls Try.prog 20 #[.int .i64 (m : Int), .int .i64 k] w (GivesOwn w (effB m k)) := specEfflW m k w hm h0 (by omega)
end Go.Proofs.Ytklaanohbpcifaa

/- EffectiveIn: the plain list, and what a loop holds that puts another's rows into rows of its own. -/
namespace Go.Proofs.Ytklaanohbpcifaa
open Go.RowKit

theorem deg_lim {xs : List Int} (h : ∀ u, -60 ≤ xs.getD u 0 ∧ xs.getD u 0 ≤ 60) : ∀ j : Nat, j ≤ 6 → -(60 * (j : Int)) ≤ degB xs j ∧ degB xs j ≤ 60 * (j : Int)
  | 0, _ => by simp [degB]
  | j + 1, hj => by
    have h1 := deg_lim h j (by omega)
    have h2 := h j
    rw [degB, wrap64_of (by omega) (by omega)]
    omega
/-- the effective divisors of d's class among the first t of all -/
noncomputable def einL (N : Int) (es : List (Int × Int)) (d : List Int) (L : List (List Int)) : List (List Int) := L.filter fun e => decide (redR N es d 0 = redR N es e 0)
noncomputable def einOk (N : Int) (es : List (Int × Int)) (d : List Int) : Bool := divB 60 N es d && decide (degB d d.length ≤ 7)
noncomputable def einB (N : Int) (es : List (Int × Int)) (d : List Int) : List (List Int) := if einOk N es d = true ∧ winB N es d = true then einL N es d (effB N.toNat (degB d d.length)) else []
theorem ein_no1 {N : Int} {es : List (Int × Int)} {d : List Int} (h : divB 60 N es d = false) : einOk N es d = false := by simp [einOk, h]
theorem ein_no2 {N : Int} {es : List (Int × Int)} {d : List Int} (h : ¬ degB d d.length ≤ 7) : einOk N es d = false := by simp [einOk]; intro _; omega
theorem ein_yes {N : Int} {es : List (Int × Int)} {d : List Int} (h : divB 60 N es d = true) (h2 : degB d d.length ≤ 7) : einOk N es d = true := by simp [einOk, h, h2]
theorem einB_f {N : Int} {es : List (Int × Int)} {d : List Int} (h : einOk N es d = false) : einB N es d = [] := by rw [einB, if_neg]; rw [h]; simp
theorem einB_n {N : Int} {es : List (Int × Int)} {d : List Int} (h : winB N es d = false) : einB N es d = [] := by rw [einB, if_neg]; rw [h]; simp
theorem einB_t {N : Int} {es : List (Int × Int)} {d : List Int} (h : einOk N es d = true) (h2 : winB N es d = true) : einB N es d = einL N es d (effB N.toNat (degB d d.length)) := by rw [einB, if_pos ⟨h, h2⟩]
theorem einL_step {N : Int} {es : List (Int × Int)} {d : List Int} {L : List (List Int)} {t : Nat} {r : List Int} (h : L[t]? = some r) : einL N es d (L.take (t + 1)) = if redR N es d 0 = redR N es r 0 then einL N es d (L.take t) ++ [r] else einL N es d (L.take t) := by
  rw [List.take_add_one, h, einL, List.filter_append]
  by_cases e : redR N es d 0 = redR N es r 0
  · rw [if_pos e]
    simp [einL, e]
  · rw [if_neg e]
    simp [einL, e]
theorem einL_len {N : Int} {es : List (Int × Int)} {d : List Int} {L : List (List Int)} (t : Nat) : (einL N es d (L.take t)).length ≤ L.length := by
  have h1 := List.length_filter_le (fun e => decide (redR N es d 0 = redR N es e 0)) (L.take t)
  rw [List.length_take] at h1
  unfold einL
  omega
/-- an effective divisor of a small degree is a divisor -/
theorem eff_div {M : Nat} {es : List (Int × Int)} {k : Int} {r : List Int} (hg : graphB (M : Int) es = true) (hk : k ≤ 7) (h : r ∈ effB M k) : divB 60 (M : Int) es r = true := by
  obtain ⟨h1, h2⟩ := effB_mem M k r h
  rw [divB_a hg (by omega), List.all_eq_true]
  intro x hx
  have := h2 x hx
  exact within_t (by omega)

/-- ints in a block between lo and hi -/
def InI (w : World) (lo hi : Nat) (A : Option Addr) (zs : List Int) : Prop :=
  0 < zs.length → ∃ b off : Nat, A = some ⟨b, off, none⟩ ∧ lo ≤ b ∧ b < hi ∧ ∀ (i : Nat) (z : Int), zs[i]? = some z → w.cell? ⟨b, off + i, none⟩ = some (.int .i64 z)
theorem OwnI.ini {w : World} {base : Nat} {A : Option Addr} {zs : List Int} (h : OwnI w base A zs) : InI w base w.heap.size A zs := fun hn => by
  obtain ⟨g, off, e, h1, h2, h3⟩ := h hn
  exact ⟨g, off, e, h1, h2, fun i z hz => (h3 i z hz).1⟩
theorem InI.ints {w : World} {lo hi : Nat} {A : Option Addr} {zs : List Int} (h : InI w lo hi A zs) (hh : hi ≤ w.heap.size) : IntS w w.heap.size A zs := fun hn => by
  obtain ⟨g, off, e, h1, h2, h3⟩ := h hn
  exact ⟨g, off, e, by omega, h3⟩
theorem InI.wide {w : World} {lo lo' hi hi' : Nat} {A : Option Addr} {zs : List Int} (h : InI w lo hi A zs) (h1 : lo' ≤ lo) (h2 : hi ≤ hi') : InI w lo' hi' A zs := fun hn => by
  obtain ⟨g, off, e, h3, h4, h5⟩ := h hn
  exact ⟨g, off, e, by omega, by omega, h5⟩
theorem InI.below {w w' : World} {lo hi : Nat} {A : Option Addr} {zs : List Int} (h : InI w lo hi A zs) (hh : hi ≤ w.heap.size) (hb : Below w.heap.size w w') : InI w' lo hi A zs := fun hn => by
  obtain ⟨g, off, e, h1, h2, h3⟩ := h hn
  exact ⟨g, off, e, h1, h2, fun i z hz => (hb.cell (p := ⟨g, off + i, none⟩) (by simp only; omega)).trans (h3 i z hz)⟩
/-- apart from an interval of blocks -/
def OutOf (row : Option Nat) (lo hi : Nat) : Prop := ∀ g, row = some g → g < lo ∨ hi ≤ g
theorem InI.grown {w w' : World} {lo hi : Nat} {A : Option Addr} {zs : List Int} {row : Option Nat} (h : InI w lo hi A zs) (hh : hi ≤ w.heap.size) (hg : w.grownBy w' row) (ho : OutOf row lo hi) : InI w' lo hi A zs := fun hn => by
  obtain ⟨g, off, e, h1, h2, h3⟩ := h hn
  exact ⟨g, off, e, h1, h2, fun i z hz => (World.cell?_of_block (a := ⟨g, off + i, none⟩) (hg.block g (by omega) (fun e => by have := ho g e.symm; omega))).trans (h3 i z hz)⟩
theorem SSOwnV.at2 {w : World} {base n cap : Nat} {Ar : Option Addr} {vs : List Value} {rs : List (List Int)} {t : Nat} {r : List Int} (h : SSOwnV w base (.slice Ar n cap) vs rs) (hr : rs[t]? = some r) (hz : 0 < r.length) :
    ∃ gL b c : Nat, Ar = some ⟨gL, 0, none⟩ ∧ w.cell? ⟨gL, t, none⟩ = some (.slice (some ⟨b, 0, none⟩) r.length c) ∧ QOwn w base (.slice (some ⟨b, 0, none⟩) r.length c) r ∧ gL < w.heap.size := by
  have ht : t < rs.length := (List.getElem?_eq_some_iff.1 hr).1
  obtain ⟨u, hu, hq⟩ := h.2 t r hr
  obtain ⟨y, c, rfl, h1, h2⟩ := hq.far hz
  rcases h.1.2 with ⟨_, e⟩ | ⟨g, cap', cur, e, _⟩
  · omega
  · injection e with e1 e2 e3
    subst e1
    refine ⟨g, y, c, rfl, ?_, hq, (h.1.lt g rfl).2⟩
    have := h.1.cells (g := g) rfl t _ hu
    rwa [Addr.add_lit, Nat.zero_add] at this
theorem SSOwnV.mono {w : World} {base base' : Nat} {v : Value} {vs : List Value} {rs : List (List Int)} (h : SSOwnV w base v vs rs) (hb : base' ≤ base) : SSOwnV w base' v vs rs :=
  ⟨ownsRow_mono h.1 hb, fun i r hr => by
    obtain ⟨u, hu, hq⟩ := h.2 i r hr
    exact ⟨u, hu, ownsRow_mono hq hb⟩⟩
theorem SSOwnV.far2 {w w1 : World} {base b1 n : Nat} {v out : Value} {us : List Value} {rs : List (List Int)} {xs : List Value} (h : SSOwnV w base v us rs) (ho : w.ownsRow b1 25 1 out n xs) (hne : v.ownBlock = none ∨ v.ownBlock ≠ out.ownBlock) (hg : w.grownBy w1 out.ownBlock) : SSOwnV w1 base v us rs := by
  obtain ⟨h1, h2⟩ := h
  refine ⟨h1.kept hg hne, fun i r hr => ?_⟩
  obtain ⟨u, hu, hq⟩ := h2 i r hr
  exact ⟨u, hu, World.ownsRow.kept hq hg (own_types2 hq ho (by decide))⟩
/-- what the loop of EffectiveIn holds -/
structure EinI (w wr : World) (N : Int) (A : Option Addr) (c : Nat) (es : List (Int × Int)) (lb lo hi cL : Nat) (Ar A1 : Option Addr) (xs : List Int) (v : Value) (vsL : List Value) (L rs : List (List Int)) : Prop where
  g : GB w wr N A c es
  x : InI wr lo hi A1 xs
  out : ∃ vs, wr.ownsRow lb 25 1 v rs.length vs ∧ ∀ (i : Nat) (r : List Int), rs[i]? = some r → ∃ u, vs[i]? = some u ∧ QOwn wr lb u r
  far : OutOf v.ownBlock lo hi
  rows : SSOwnV wr lo (.slice Ar L.length cL) vsL L
  hile : hi ≤ wr.heap.size
  gl : lo ≤ hi ∧ ∀ g, (Value.slice Ar L.length cL).ownBlock = some g → lo ≤ g ∧ g < hi
  lbs : w.heap.size < lb ∧ lb ≤ lo
section
variable {w wr wd w4 : World} {N : Int} {A Ar A1 : Option Addr} {c lb lo hi cL : Nat} {es : List (Int × Int)} {xs : List Int} {v v' : Value} {vsL : List Value} {L rs : List (List Int)} {r : List Int}
theorem EinI.next (h : EinI w wr N A c es lb lo hi cL Ar A1 xs v vsL L rs) (hb : Below wr.heap.size wr wd) : EinI w wd N A c es lb lo hi cL Ar A1 xs v vsL L rs := by
  obtain ⟨vs, h1, h2⟩ := h.out
  have k1 := h1.kept (row := none) ⟨hb.os, hb.tape, hb.output, hb.size, fun i hi _ => hb.block i hi⟩ (Classical.em _)
  exact ⟨h.g.next hb, h.x.below h.hile hb, ⟨vs, k1, fun i r hr => by
    obtain ⟨u, hu, hq⟩ := h2 i r hr
    exact ⟨u, hu, hq.below hb⟩⟩, h.far, h.rows.keep hb, Nat.le_trans h.hile hb.size, h.gl, h.lbs⟩
/-- a row of the other's is put in -/
theorem EinI.push {u : Value} (h : EinI w wr N A c es lb lo hi cL Ar A1 xs v vsL L rs) (hq : QOwn wr lo u r) :
    ∃ vs, (wr.alloc (Obj.cells #[u] 25)).ownsRow lb 25 1 v rs.length vs ∧ lb ≤ (wr.alloc (Obj.cells #[u] 25)).heap.size ∧
    ∀ (w4 : World) (v' : Value), w4.ownsRow lb 25 1 v' (rs.length + 1) (vs ++ [u]) → World.grownBy (wr.alloc (Obj.cells #[u] 25)) w4 v.ownBlock → (v'.ownBlock = v.ownBlock ∨ v'.ownBlock = some (wr.heap.size + 1)) →
      EinI w w4 N A c es lb lo hi cL Ar A1 xs v' vsL L (rs ++ [r]) := by
  have hb : Below wr.heap.size wr (wr.alloc (Obj.cells #[u] 25)) := (Below.refl _ _).alloc (Nat.le_refl _) _
  have h' := h.next hb
  obtain ⟨vs, h1, h2⟩ := h'.out
  have hs := h'.hile
  have hl := h'.lbs
  have hgl := h.gl.1
  refine ⟨vs, h1, by omega, fun w4 v' o4 g4 hat => ?_⟩
  have hP := SSOwn.push h1 h2 (ownsRow_mono (hq.below hb) hl.2) o4 g4
  have hf : OutOf v.ownBlock lo hi := h.far
  have hlt : ∀ q, v.ownBlock = some q → lb ≤ q := fun q e => (h1.lt q e).1
  refine ⟨⟨h'.g.box.grown g4 (fun e => by have := hlt _ e; omega), h'.g.old.grown g4 (by have := h'.g.old.size; omega) (fun q e => by have := hlt _ e; omega)⟩, h'.x.grown hs g4 hf, hP, fun g e => ?_, h'.rows.far2 h1 ?_ g4, ?_, h.gl, h.lbs⟩
  · rcases hat with q | q
    · exact hf g (by rw [← q]; exact e)
    · rw [e] at q
      injection q with q
      have := h.hile
      exact .inr (by omega)
  · by_cases e : (Value.slice Ar L.length cL).ownBlock = none
    · exact .inl e
    · right
      intro q
      obtain ⟨g, hg⟩ := Option.ne_none_iff_exists'.1 e
      have h8 := h.gl.2 g hg
      have h9 := hf g (by rw [← q]; exact hg)
      omega
  · have := g4.size
    omega
end
end Go.Proofs.Ytklaanohbpcifaa

/- All effective divisors of a degree: which they are, and their order. -/
namespace Go.Proofs.Ytklaanohbpcifaa
open Go.RowKit

theorem effB_sum : ∀ (n : Nat) (k : Int) (r : List Int), r ∈ effB n k → r.sum = k
  | 0, _, r, h => by simp [effB] at h
  | 1, k, r, h => by
    rw [effB] at h
    split at h
    · simp at h
    · rw [List.mem_singleton] at h
      subst h
      simp
  | n + 2, k, r, h => by
    rw [effB] at h
    split at h
    · simp at h
    · rw [List.mem_flatMap] at h
      obtain ⟨x, hx, h⟩ := h
      rw [List.mem_map] at h
      obtain ⟨p, hp, rfl⟩ := h
      have := effB_sum (n + 1) (k - (x : Int)) p hp
      rw [List.sum_cons]
      omega
theorem sum_pos : ∀ {r : List Int}, (∀ y ∈ r, 0 ≤ y) → 0 ≤ r.sum
  | [], _ => by simp
  | x :: l, h => by
    have h1 := h x (by simp)
    have h2 := sum_pos (r := l) (fun y hy => h y (by simp [hy]))
    rw [List.sum_cons]
    omega
theorem effB_in : ∀ (n : Nat) (k : Int) (r : List Int), r.length = n + 1 → (∀ y ∈ r, 0 ≤ y) → r.sum = k → r ∈ effB (n + 1) k
  | 0, k, r, hl, hp, hs => by
    obtain ⟨x, rfl⟩ := List.length_eq_one_iff.1 hl
    have h1 := hp x (by simp)
    simp at hs
    subst hs
    rw [effB_one h1]
    simp
  | n + 1, k, r, hl, hp, hs => by
    cases r with
    | nil => simp at hl
    | cons x p =>
      have h1 := hp x (by simp)
      have h2 := sum_pos (r := p) (fun y hy => hp y (by simp [hy]))
      rw [List.sum_cons] at hs
      have h3 := effB_in n (k - x) p (by simpa using hl) (fun y hy => hp y (by simp [hy])) (by omega)
      rw [effB, if_neg (by omega), List.mem_flatMap]
      refine ⟨x.toNat, by rw [List.mem_range]; omega, ?_⟩
      rw [List.mem_map]
      have h4 : ((x.toNat : Nat) : Int) = x := by omega
      exact ⟨p, by rw [h4]; exact h3, by rw [h4]⟩
/-- the order of lists of one length -/
def lexLt : List Int → List Int → Prop
  | x :: a, y :: b => x < y ∨ (x = y ∧ lexLt a b)
  | _, _ => False
theorem effB_sorted : ∀ (n : Nat) (k : Int), (effB n k).Pairwise lexLt
  | 0, _ => by simp [effB]
  | 1, k => by
    rw [effB]
    split <;> simp
  | n + 2, k => by
    rw [effB]
    split
    · simp
    · rw [List.pairwise_flatMap]
      refine ⟨fun x _ => ?_, ?_⟩
      · rw [List.pairwise_map]
        exact (effB_sorted (n + 1) _).imp fun h => Or.inr ⟨rfl, h⟩
      · refine List.pairwise_lt_range.imp fun {a b} h x hx y hy => ?_
        obtain ⟨p, _, rfl⟩ := List.mem_map.1 hx
        obtain ⟨q, _, rfl⟩ := List.mem_map.1 hy
        exact Or.inl (by omega)
end Go.Proofs.Ytklaanohbpcifaa

/- An effective divisor is won: its reduced divisor has no less at the vertex than it has. -/
namespace Go.Proofs.Ytklaanohbpcifaa
open Go.RowKit

/-- the reducing script of a divisor without debt takes from no vertex -/
theorem red_lo {M : Nat} {es : List (Int × Int)} {d : List Int} {q : Nat} {g : Nat → Int} (hp : ∀ u, u < M → u ≠ q → 0 ≤ d.getD u 0) (hg : IsRed M es d q g) (hq : q < M) (hn : es.length ≤ 12) (hd : ∀ u, -1000000 ≤ d.getD u 0 ∧ d.getD u 0 ≤ 1000000) (hes : ∀ e ∈ es, 0 ≤ e.1 ∧ e.1 < e.2 ∧ e.2 < (M : Int)) : ∀ u, u < M → 0 ≤ g u := by
  obtain ⟨a, ha, hmax⟩ := maxV (fun u => -g u) M (by omega)
  obtain ⟨m, hm⟩ : ∃ m, m = -g a := ⟨_, rfl⟩
  by_cases hm0 : m ≤ 0
  · intro u hu
    have := hmax u hu
    omega
  exfalso
  have hq2 : 0 ≤ (q : Int) ∧ (q : Int) < (M : Int) := by omega
  have hb := (burntL_all (es := es) (d := chipsOf M (Dv d es g)) hq2).1.full hg.all
  obtain ⟨v, hv, hA, hlt⟩ := burn_meets (d := chipsOf M (Dv d es g)) (es := es) hq2 (fun x => decide (-g x.toNat = m)) (by
    simp only [Int.toNat_natCast, hg.zero, decide_eq_false_iff_not]
    omega) ⟨(a : Int), hb a ha, by simp [hm]⟩
  simp only [Int.toNat_natCast, decide_eq_true_eq] at hA
  rw [chips_get hv (Dv_bound hn hd hes hg.bound v)] at hlt
  have h1 := top_fire (t := fun u => -g u) (m := m) M (fun w hw => by rw [hm]; exact hmax w hw) (v := v) hA es hes
  rw [termsF_neg] at h1
  have hvq : v ≠ q := by
    rintro rfl
    rw [hg.zero] at hA
    omega
  have h3 := hp v hv hvq
  simp only [Dv] at hlt
  omega
theorem termsF_low {g : Nat → Int} {M q : Nat} (hz : g q = 0) (h : ∀ u, u < M → 0 ≤ g u) : ∀ es : List (Int × Int), (∀ e ∈ es, 0 ≤ e.1 ∧ e.1 < e.2 ∧ e.2 < (M : Int)) → 0 ≤ termsF g q es
  | [], _ => by simp [termsF]
  | e :: es, hes => by
    have h1 := termsF_low (q := q) hz h es (fun x hx => hes x (by simp [hx]))
    obtain ⟨e1, e2, e3⟩ := hes e (by simp)
    have h2 := h e.1.toNat (by omega)
    have h3 := h e.2.toNat (by omega)
    have h4 : 0 ≤ termF g q e := by
      unfold termF ind
      by_cases c1 : (q : Int) = e.1
      · have : g e.1.toNat = 0 := by rw [← c1, Int.toNat_natCast]; exact hz
        rw [if_pos c1, if_neg (by omega)]
        omega
      · rw [if_neg c1]
        by_cases c2 : (q : Int) = e.2
        · have : g e.2.toNat = 0 := by rw [← c2, Int.toNat_natCast]; exact hz
          rw [if_pos c2]
          omega
        · rw [if_neg c2]
          omega
    rw [termsF]
    omega
/-- .. so the vertex has no less -/
theorem red_won {M : Nat} {es : List (Int × Int)} {d : List Int} {q : Nat} {g : Nat → Int} (hp : ∀ u, u < M → 0 ≤ d.getD u 0) (hg : IsRed M es d q g) (hq : q < M) (hn : es.length ≤ 12) (hd : ∀ u, -1000000 ≤ d.getD u 0 ∧ d.getD u 0 ≤ 1000000) (hes : ∀ e ∈ es, 0 ≤ e.1 ∧ e.1 < e.2 ∧ e.2 < (M : Int)) : ∀ u, u < M → 0 ≤ Dv d es g u := fun u hu => by
  by_cases e : u = q
  · subst e
    have h1 := red_lo (fun v hv _ => hp v hv) hg hq hn hd hes
    have h2 := termsF_low hg.zero h1 es hes
    have h3 := hp u hu
    unfold Dv
    omega
  · exact hg.pos u hu e
end Go.Proofs.Ytklaanohbpcifaa

/- What firing a small script makes of a small divisor: another divisor of the same class, degree, reduced divisor (drawn graphs: 2 to 5 vertices, at most 8 edges). -/
namespace Go.Proofs.Ytklaanohbpcifaa
open Go.RowKit

theorem divB_ofC {m : Int} {M : Nat} {es : List (Int × Int)} {d : List Int} (hg : graphB (M : Int) es = true) (hl : d.length = M) (hb : ∀ x ∈ d, -m ≤ x ∧ x ≤ m) : divB m (M : Int) es d = true := by
  rw [divB_a hg (by omega), List.all_eq_true]
  exact fun x hx => within_t (hb x hx)
theorem getD_boundC {d : List Int} {lo hi : Int} (hb : ∀ x ∈ d, lo ≤ x ∧ x ≤ hi) (h0 : lo ≤ 0) (h1 : 0 ≤ hi) (u : Nat) : lo ≤ d.getD u 0 ∧ d.getD u 0 ≤ hi := by
  cases hu : d[u]? with
  | none => simp only [List.getD, hu, Option.getD_none]; omega
  | some x =>
    simp only [List.getD, hu, Option.getD_some]
    exact hb x (List.mem_of_getElem? hu)
theorem chipsOf_allC {M : Nat} {f : Nat → Int} {lo hi : Int} (h0 : -9223372036854775808 ≤ lo) (h1 : hi ≤ 9223372036854775807) (h : ∀ u, u < M → lo ≤ f u ∧ f u ≤ hi) : ∀ x ∈ chipsOf M f, lo ≤ x ∧ x ≤ hi := fun x hx => by
  obtain ⟨i, hi⟩ := List.getElem?_of_mem hx
  have hl := (List.getElem?_eq_some_iff.1 hi).1
  rw [chipsOf_len] at hl
  rw [chipsOf_at f hl] at hi
  injection hi with hi
  have := h i hl
  rw [wrap64_of (by omega) (by omega)] at hi
  omega
theorem chipsOf_getC {M : Nat} {f : Nat → Int} {u : Nat} (hu : u < M) (h : -9223372036854775808 ≤ f u ∧ f u ≤ 9223372036854775807) : (chipsOf M f)[u]? = some (f u) ∧ (chipsOf M f).getD u 0 = f u := by
  have h1 := chipsOf_at f hu
  rw [wrap64_of h.1 h.2] at h1
  exact ⟨h1, by simp [List.getD, h1]⟩
/-- the degree is the sum, where nothing wraps -/
theorem deg_sum {xs : List Int} (h : ∀ u, -1000000 ≤ xs.getD u 0 ∧ xs.getD u 0 ≤ 1000000) : ∀ j : Nat, j ≤ 1000 → degB xs j = sumV (fun u => xs.getD u 0) j ∧ -(1000000 * (j : Int)) ≤ degB xs j ∧ degB xs j ≤ 1000000 * (j : Int)
  | 0, _ => by simp [degB, sumV]
  | j + 1, hj => by
    obtain ⟨h1, h2, h3⟩ := deg_sum h j (by omega)
    have h4 := h j
    rw [degB, wrap64_of (by omega) (by omega), sumV, ← h1]
    refine ⟨rfl, ?_, ?_⟩ <;> omega
theorem sumV_eqC {f g : Nat → Int} : ∀ {M : Nat}, (∀ u, u < M → f u = g u) → sumV f M = sumV g M
  | 0, _ => rfl
  | M + 1, h => by rw [sumV, sumV, sumV_eqC (fun u hu => h u (by omega)), h M (by omega)]
section
variable {M : Nat} {es : List (Int × Int)} {d t : List Int}
structure FireCls (M : Nat) (es : List (Int × Int)) (d t : List Int) (e : List Int) : Prop where
  is : firedB M es d t = e
  len : e.length = M
  ddiv : divB 60 (M : Int) es d = true
  tdiv : divB 100000 (M : Int) es t = true
  div : divB 60 (M : Int) es e = true
  get : ∀ u, u < M → e.getD u 0 = Dv d es (fun i => t.getD i 0) u
  deg : degB e e.length = degB d d.length
  red : redR (M : Int) es e 0 = redR (M : Int) es d 0
  eqv : eqvB (M : Int) es d e = true
  qve : eqvB (M : Int) es e d = true
  scr : ∃ f : Nat → Int, (∀ u, u < M → -100000 ≤ f u ∧ f u ≤ 100000) ∧ scrR (M : Int) es d 0 = chipsOf M f ∧ scrR (M : Int) es e 0 = chipsOf M fun i => f i + (-t.getD i 0 + t.getD 0 0)
theorem fireCls (hg : graphB (M : Int) es = true) (hM0 : 0 < M) (hM5 : M ≤ 5) (hel : es.length ≤ 8) (hdl : d.length = M) (hbd : ∀ x ∈ d, -2 ≤ x ∧ x ≤ 6) (htl : t.length = M) (hbt : ∀ x ∈ t, -3 ≤ x ∧ x ≤ 3) (hex : ∃ f, IsRed M es d 0 f) : FireCls M es d t (firedB M es d t) := by
  obtain ⟨f0, hf0⟩ := hex
  have hf := redF_is hf0
  have hes : ∀ e ∈ es, 0 ≤ e.1 ∧ e.1 < e.2 ∧ e.2 < (M : Int) := fun e he => all_edge (graphB_all hg).1 he
  have hcut : Cut M es := (graphB_all hg).2.cut
  obtain ⟨f, hff⟩ : ∃ f, f = redF M es d 0 := ⟨_, rfl⟩
  rw [← hff] at hf
  have hgd := getD_boundC hbd (by omega) (by omega)
  have hsm := fun u hu => hf.small hcut hM5 hM0 hel (fun u _ => hgd u) (fun u => by have := hgd u; omega) hes u hu
  have dd : divB 60 (M : Int) es d = true := divB_ofC hg hdl (fun x hx => by have := hbd x hx; omega)
  have hR : redR (M : Int) es d 0 = chipsOf M (Dv d es f) := by
    rw [redR_t (div_burn dd), Int.toNat_natCast, hff]
    rfl
  have hgt := getD_boundC hbt (by omega) (by omega)
  have hE : firedB M es d t = chipsOf M (Dv d es fun i => t.getD i 0) := by
    unfold firedB
    exact chipsOf_eq fun u _ => by rw [Dv, terms_F]
  have hEb : ∀ u, u < M → -60 ≤ Dv d es (fun i => t.getD i 0) u ∧ Dv d es (fun i => t.getD i 0) u ≤ 60 := fun u _ => by
    have h1 := termsF_bound (f := fun i => t.getD i 0) (K := 3) u M (fun v _ => hgt v) es hes
    have h2 := hgd u
    unfold Dv
    omega
  have hEa := chipsOf_allC (lo := -60) (hi := 60) (by omega) (by omega) hEb
  have ed : divB 60 (M : Int) es (chipsOf M (Dv d es fun i => t.getD i 0)) = true := divB_ofC hg (chipsOf_len _ _) hEa
  have hget : ∀ u, u < M → (chipsOf M (Dv d es fun i => t.getD i 0)).getD u 0 = Dv d es (fun i => t.getD i 0) u := fun u hu => (chipsOf_getC hu (by have := hEb u hu; omega)).2
  obtain ⟨hD, hIs⟩ := hf.fired (e := chipsOf M (Dv d es fun i => t.getD i 0)) (t := fun i => t.getD i 0) hM0 hget (fun u _ => by have := hgt u; omega) (fun u hu => (hsm u hu).2)
  have hEg := getD_boundC hEa (by omega) (by omega)
  have hred : redR (M : Int) es (chipsOf M (Dv d es fun i => t.getD i 0)) 0 = redR (M : Int) es d 0 := by
    rw [hR, redR_t (div_burn ed), Int.toNat_natCast]
    have h1 := (redF_eq hIs hM0 (by omega) (fun u => by have := hEg u; omega) hes).2
    show chipsOf M (Dv _ es (redF M es _ 0)) = _
    rw [← h1]
    exact chipsOf_eq hD
  have hdeg : degB (chipsOf M (Dv d es fun i => t.getD i 0)) M = degB d M := by
    rw [(deg_sum (fun u => by have := hEg u; omega) M (by omega)).1, (deg_sum (fun u => by have := hgd u; omega) M (by omega)).1, sumV_eqC hget, Dv_sum hes]
  have hscr : scrR (M : Int) es (chipsOf M (Dv d es fun i => t.getD i 0)) 0 = chipsOf M fun i => f i + (-t.getD i 0 + t.getD 0 0) := by
    rw [scrR_t (div_burn ed), Int.toNat_natCast]
    exact (redF_eq hIs hM0 (by omega) (fun u => by have := hEg u; omega) hes).1.symm
  have hscd : scrR (M : Int) es d 0 = chipsOf M f := by
    rw [scrR_t (div_burn dd), Int.toNat_natCast, hff]
    rfl
  rw [hE]
  refine ⟨hE, chipsOf_len _ _, dd, divB_ofC hg htl (fun x hx => by have := hbt x hx; omega), ed, hget, by rw [chipsOf_len, hdl]; exact hdeg, hred, ?_, ?_, f, fun u hu => (hsm u hu).2, hscd, hscr⟩
  · rw [eqv_t dd ed (by rw [chipsOf_len, hdl]; exact hdeg.symm), hred]
    simp
  · rw [eqv_t ed dd (by rw [chipsOf_len, hdl]; exact hdeg), hred]
    simp
theorem leastF_map (a : Int) : ∀ (l : List Int) (x : Int), leastF (x + a) (l.map (· + a)) = leastF x l + a
  | [], x => rfl
  | y :: l, x => by
    rw [List.map_cons, leastF, leastF, ← leastF_map a l]
    congr 1
    omega
theorem leastB_map (a : Int) {l : List Int} (h : 0 < l.length) : leastB (l.map (· + a)) = leastB l + a := by
  cases l with
  | nil => simp at h
  | cons x l => exact leastF_map a l x
/-- a small list lifted -/
theorem liftB_small {l : List Int} (a : Int) (h : 0 < l.length) (hb : ∀ x ∈ l, -1000 ≤ x ∧ x ≤ 1000) : liftB (l.map (· + a)) = l.map (· - leastB l) := by
  have h1 := hb _ (leastB_mem h)
  rw [liftB, leastB_map a h, List.map_map]
  refine List.map_congr_left fun x hx => ?_
  have h2 := hb x hx
  show wrap64 (x + a - (leastB l + a)) = x - leastB l
  rw [wrap64_of (by omega) (by omega)]
  omega
/-- the two scripts between a divisor and what a script makes of it -/
theorem bet_fire {e : List Int} (F : FireCls M es d t e) (hM0 : 0 < M) (htl : t.length = M) (hbt : ∀ x ∈ t, -3 ≤ x ∧ x ≤ 3) :
    betB (M : Int) es d e = t.map (· - leastB t) ∧ betB (M : Int) es e d = (t.map (- ·)).map (· - leastB (t.map (- ·))) := by
  obtain ⟨f, hf, h1, h2⟩ := F.scr
  have hgt := getD_boundC hbt (by omega) (by omega)
  have k1 : subB (scrR (M : Int) es d 0) (scrR (M : Int) es e 0) = t.map (· + -t.getD 0 0) := by
    rw [h1, h2]
    apply List.ext_getElem?
    intro u
    by_cases hu : u < M
    · have g1 := hf u hu
      have g2 := hgt u
      have g3 := hgt 0
      rw [subB_at (chipsOf_getC hu (by omega)).1 (chipsOf_getC (f := fun i => f i + (-t.getD i 0 + t.getD 0 0)) hu (by omega)).1, wrap64_of (by omega) (by omega), List.getElem?_map, List.getElem?_eq_getElem (by omega)]
      rw [show t.getD u 0 = t[u]'(by omega) by simp [List.getD, htl, hu]]
      simp only [Option.map_some, Option.some.injEq]
      omega
    · rw [List.getElem?_eq_none (by rw [subB_len, chipsOf_len]; omega), List.getElem?_eq_none (by rw [List.length_map]; omega)]
  have k2 : subB (scrR (M : Int) es e 0) (scrR (M : Int) es d 0) = (t.map (- ·)).map (· + t.getD 0 0) := by
    rw [h1, h2]
    apply List.ext_getElem?
    intro u
    by_cases hu : u < M
    · have g1 := hf u hu
      have g2 := hgt u
      have g3 := hgt 0
      rw [subB_at (chipsOf_getC (f := fun i => f i + (-t.getD i 0 + t.getD 0 0)) hu (by omega)).1 (chipsOf_getC hu (by omega)).1, wrap64_of (by omega) (by omega), List.getElem?_map, List.getElem?_map, List.getElem?_eq_getElem (by omega)]
      rw [show t.getD u 0 = t[u]'(by omega) by simp [List.getD, htl, hu]]
      simp only [Option.map_some, Option.some.injEq]
      omega
    · rw [List.getElem?_eq_none (by rw [subB_len, chipsOf_len]; omega), List.getElem?_eq_none (by rw [List.length_map, List.length_map]; omega)]
  rw [bet_t F.eqv, bet_t F.qve, k1, k2]
  refine ⟨liftB_small _ (by omega) fun x hx => by have := hbt x hx; omega, liftB_small _ (by rw [List.length_map]; omega) fun x hx => ?_⟩
  obtain ⟨y, hy, rfl⟩ := List.mem_map.1 hx
  have := hbt y hy
  omega
/-- firing the script between leads there -/
theorem bet_fires {e : List Int} (F : FireCls M es d t e) (hM0 : 0 < M) (htl : t.length = M) (hbt : ∀ x ∈ t, -3 ≤ x ∧ x ≤ 3) : firedB M es d (betB (M : Int) es d e) = e ∧ (∀ x ∈ betB (M : Int) es d e, 0 ≤ x ∧ x ≤ 6) ∧ leastB (betB (M : Int) es d e) = 0 ∧ (betB (M : Int) es d e).length = M := by
  have h1 := (bet_fire F hM0 htl hbt).1
  have hm := hbt _ (leastB_mem (l := t) (by omega))
  refine ⟨?_, fun x hx => ?_, ?_, by rw [h1, List.length_map, htl]⟩
  · rw [h1]
    refine Eq.trans ?_ F.is
    have hes : ∀ e ∈ es, 0 ≤ e.1 ∧ e.1 < e.2 ∧ e.2 < (M : Int) := fun e he => all_edge (graphB_all (divB_all F.ddiv).1).1 he
    unfold firedB
    refine chipsOf_eq fun u _ => ?_
    rw [terms_F, terms_F]
    have h2 := termsF_add (fun i => t.getD i 0) (fun _ => -leastB t) u es
    rw [termsF_const] at h2
    rw [termsF_congr (f := fun i => (t.map (· - leastB t)).getD i 0) (g := fun i => t.getD i 0 + -leastB t) u es fun e he => ?_, h2]
    · omega
    · have h3 := hes e he
      have h4 : ∀ i : Nat, i < M → (t.map (· - leastB t)).getD i 0 = t.getD i 0 + -leastB t := fun i hi => by
        have hi' : i < t.length := by omega
        simp [List.getD, hi']
        omega
      exact ⟨h4 _ (by omega), h4 _ (by omega)⟩
  · rw [h1] at hx
    obtain ⟨y, hy, rfl⟩ := List.mem_map.1 hx
    have h2 := hbt y hy
    have h3 := leastB_le hy
    omega
  · have h2 := leastB_map (-leastB t) (l := t) (by omega)
    rw [h1]
    have h3 : (t.map (· - leastB t)) = t.map (· + -leastB t) := List.map_congr_left fun x _ => by omega
    rw [h3, h2]
    omega
/-- the opposite script leads back -/
theorem fire_back {e : List Int} (F : FireCls M es d t e) (hdl : d.length = M) (hbd : ∀ x ∈ d, -2 ≤ x ∧ x ≤ 6) (htl : t.length = M) : firedB M es e (t.map (- ·)) = d := by
  have hes : ∀ e ∈ es, 0 ≤ e.1 ∧ e.1 < e.2 ∧ e.2 < (M : Int) := fun e he => all_edge (graphB_all (divB_all F.ddiv).1).1 he
  refine Eq.trans ?_ (chips_start hdl fun x hx => by have := hbd x hx; omega)
  unfold firedB
  refine chipsOf_eq fun u hu => ?_
  rw [terms_F, termsF_congr (f := fun i => (t.map (- ·)).getD i 0) (g := fun i => -t.getD i 0) u es fun e he => ?_, termsF_neg, F.get u hu, Dv]
  · omega
  · have h3 := hes e he
    have h4 : ∀ i : Nat, i < M → (t.map (- ·)).getD i 0 = -t.getD i 0 := fun i hi => by
      have hi' : i < t.length := by omega
      simp [List.getD, hi']
    exact ⟨h4 _ (by omega), h4 _ (by omega)⟩
/-- firing every vertex once changes nothing -/
theorem fire_every {l : List Int} (hes : ∀ e ∈ es, 0 ≤ e.1 ∧ e.1 < e.2 ∧ e.2 < (M : Int)) (hdl : d.length = M) (hbd : ∀ x ∈ d, -2 ≤ x ∧ x ≤ 6) (hl : ∀ u : Nat, u < M → (u : Int) ∈ l) : firedB M es d (setL M l) = d := by
  refine Eq.trans ?_ (chips_start hdl fun x hx => by have := hbd x hx; omega)
  unfold firedB
  refine chipsOf_eq fun u _ => ?_
  rw [terms_F, termsF_congr (f := fun i => (setL M l).getD i 0) (g := fun _ => 1) u es fun e he => ?_, termsF_const]
  · omega
  · have h3 := hes e he
    have h4 : ∀ i : Nat, i < M → (setL M l).getD i 0 = 1 := fun i hi => by
      rw [List.getD, setL_at l hi, if_pos (hl i hi)]
      rfl
    exact ⟨h4 _ (by omega), h4 _ (by omega)⟩
/-- what lies between a divisor and what a script makes of it is principal -/
theorem diff_prin {e x : List Int} (F : FireCls M es d t e) (hM0 : 0 < M) (hM5 : M ≤ 5) (hel : es.length ≤ 8) (hdl : d.length = M) (hbd : ∀ x ∈ d, -2 ≤ x ∧ x ≤ 6) (htl : t.length = M) (hbt : ∀ x ∈ t, -3 ≤ x ∧ x ≤ 3) (hex : ∃ f, IsRed M es (List.replicate M 0) 0 f)
    (hxl : x.length = M) (hx : ∀ u, u < M → x[u]? = some (wrap64 (d.getD u 0 + wrap64 (-e.getD u 0)))) : prinB (M : Int) es x = true := by
  have hg := (divB_all F.ddiv).1
  have hes : ∀ e ∈ es, 0 ≤ e.1 ∧ e.1 < e.2 ∧ e.2 < (M : Int) := fun e he => all_edge (graphB_all hg).1 he
  have Z := fireCls (d := List.replicate M 0) (t := t.map (- ·)) hg hM0 hM5 hel (by simp) (fun y hy => by rw [List.eq_of_mem_replicate hy]; omega) (by rw [List.length_map, htl]) (fun y hy => by
    obtain ⟨z, hz, rfl⟩ := List.mem_map.1 hy
    have := hbt z hz
    omega) hex
  have hxe : x = firedB M es (List.replicate M 0) (t.map (- ·)) := by
    apply List.ext_getElem?
    intro u
    by_cases hu : u < M
    · have hgd := getD_boundC hbd (by omega) (by omega) u
      have hgt := getD_boundC hbt (by omega) (by omega)
      have h1 := termsF_bound (f := fun i => t.getD i 0) (K := 3) u M (fun v _ => hgt v) es hes
      have h2 := F.get u hu
      unfold Dv at h2
      rw [hx u hu]
      unfold firedB
      rw [chipsOf_at _ hu, terms_F, termsF_congr (f := fun i => (t.map (- ·)).getD i 0) (g := fun i => -t.getD i 0) u es fun e he => ?_, termsF_neg, h2]
      · rw [wrap64_of (n := -(d.getD u 0 + termsF (fun i => t.getD i 0) u es)) (by omega) (by omega)]
        have h5 : (List.replicate M (0 : Int)).getD u 0 = 0 := by simp [List.getD, hu]
        rw [h5]
        congr 2
        omega
      · have h3 := hes e he
        have h4 : ∀ i : Nat, i < M → (t.map (- ·)).getD i 0 = -t.getD i 0 := fun i hi => by
          have hi' : i < t.length := by omega
          simp [List.getD, hi']
        exact ⟨h4 _ (by omega), h4 _ (by omega)⟩
    · rw [List.getElem?_eq_none (by omega), List.getElem?_eq_none (by rw [Z.len]; omega)]
  unfold prinB
  rw [hxe, Z.div, Int.toNat_natCast, Z.qve]
  rfl
end
end Go.Proofs.Ytklaanohbpcifaa

/- laws.FnSystems, the plain facts: which effective divisors are d's, and when there is one. -/
namespace Go.Proofs.Ytklaanohbpcifaa
open Go.RowKit

theorem sumV_shift (f : Nat → Int) : ∀ M : Nat, sumV f (M + 1) = f 0 + sumV (fun u => f (u + 1)) M
  | 0 => by simp [sumV]
  | M + 1 => by
    have h := sumV_shift f M
    rw [sumV, h, sumV]
    omega
theorem sumV_list : ∀ l : List Int, sumV (fun u => l.getD u 0) l.length = l.sum
  | [] => rfl
  | x :: l => by
    have h := sumV_list l
    rw [List.length_cons, sumV_shift, List.sum_cons, ← h]
    rfl
section
variable {M : Nat} {es : List (Int × Int)} {d e : List Int}
/-- an effective divisor of d's degree is of d's class if they have one reduced divisor -/
theorem eff_eqv (hd : divB 60 (M : Int) es d = true) (hk : degB d d.length ≤ 7) (he : e ∈ effB M (degB d d.length)) : eqvB (M : Int) es d e = decide (redR (M : Int) es d 0 = redR (M : Int) es e 0) := by
  have h1 := eff_div (divB_all hd).1 hk he
  obtain ⟨h2, h3⟩ := effB_mem _ _ e he
  obtain ⟨M', hM, hM0, hM6, -⟩ := div_limsB hd
  have h4 := getD_boundC (d := e) (lo := -7) (hi := 7) (fun x hx => by have := h3 x hx; omega) (by omega) (by omega)
  have h5 := (deg_sum (xs := e) (fun u => by have := h4 u; omega) e.length (by omega)).1
  rw [sumV_list, effB_sum _ _ _ he] at h5
  exact eqv_t hd h1 h5.symm
/-- the reduced divisor: no debt but at 0, in small numbers, its own reduced divisor -/
theorem red_facts (hd : divB 60 (M : Int) es d = true) (hex : ∃ f, IsRed M es d 0 f) :
    (redR (M : Int) es d 0).length = M ∧ (∀ u, u < M → u ≠ 0 → 0 ≤ (redR (M : Int) es d 0).getD u 0 ∧ (redR (M : Int) es d 0).getD u 0 < es.length) ∧ (redR (M : Int) es d 0).sum = degB d d.length ∧
    (∀ u, u < M → (redR (M : Int) es d 0).getD u 0 = Dv d es (redF M es d 0) u) := by
  obtain ⟨M', hM, hM0, hM6, hn12, hdl, hes, hdb, hcn⟩ := div_limsB hd
  obtain rfl : M' = M := by omega
  obtain ⟨f0, hf0⟩ := hex
  have hf := redF_is hf0
  have hR : redR (M' : Int) es d 0 = chipsOf M' (Dv d es (redF M' es d 0)) := by rw [redR_t (div_burn hd), Int.toNat_natCast]; rfl
  have hb := Dv_bound (d := d) (M := M') hn12 (fun u => by have := hdb u; omega) hes hf.bound
  have hget : ∀ u, u < M' → (redR (M' : Int) es d 0).getD u 0 = Dv d es (redF M' es d 0) u := fun u hu => by rw [hR]; exact chips_get hu (hb u)
  have hlen : (redR (M' : Int) es d 0).length = M' := (red_len hd).1
  refine ⟨hlen, fun u hu hu0 => ?_, ?_, hget⟩
  · rw [hget u hu]
    exact hf.few hM0 hn12 (fun u => by have := hdb u; omega) hes u hu hu0
  · rw [← sumV_list, hlen, sumV_eqC hget, Dv_sum hes, (deg_sum (xs := d) (fun u => by have := hdb u; omega) d.length (by omega)).1, hdl]
/-- a won divisor's reduced divisor is one of its effective divisors -/
theorem win_in (hd : divB 60 (M : Int) es d = true) (hk : degB d d.length ≤ 7) (hex : ∃ f, IsRed M es d 0 f) (hw : 0 ≤ chipR (M : Int) es d 0) : redR (M : Int) es d 0 ∈ effB M (degB d d.length) ∧ redR (M : Int) es (redR (M : Int) es d 0) 0 = redR (M : Int) es d 0 := by
  obtain ⟨r1, r2, r3, r4⟩ := red_facts hd hex
  obtain ⟨M', hM, hM0, hM6, hn12, hdl, hes, hdb, hcn⟩ := div_limsB hd
  obtain rfl : M' = M := by omega
  obtain ⟨f0, hf0⟩ := hex
  have hf := redF_is hf0
  have hR : redR (M' : Int) es d 0 = chipsOf M' (Dv d es (redF M' es d 0)) := by rw [redR_t (div_burn hd), Int.toNat_natCast]; rfl
  have hpos : ∀ y ∈ redR (M' : Int) es d 0, 0 ≤ y := fun y hy => by
    obtain ⟨u, hu⟩ := List.getElem?_of_mem hy
    have hul := (List.getElem?_eq_some_iff.1 hu).1
    have hg : (redR (M' : Int) es d 0).getD u 0 = y := by simp [List.getD, hu]
    by_cases e : u = 0
    · subst e
      unfold chipR at hw
      rw [← hg]
      exact hw
    · have := (r2 u (by omega) e).1
      omega
  obtain ⟨n, rfl⟩ : ∃ n, M' = n + 1 := ⟨M' - 1, by omega⟩
  have hin : redR ((n + 1 : Nat) : Int) es d 0 ∈ effB (n + 1) (degB d d.length) := effB_in n _ _ r1 hpos r3
  have hdv := eff_div (divB_all hd).1 hk hin
  refine ⟨hin, ?_⟩
  have hself : ∀ u, u < n + 1 → Dv (redR ((n + 1 : Nat) : Int) es d 0) es (fun _ => 0) u = Dv d es (redF (n + 1) es d 0) u := fun u hu => by
    rw [← r4 u hu, Dv, termsF_zero (fun _ => rfl)]
    omega
  have hIs : IsRed (n + 1) es (redR ((n + 1 : Nat) : Int) es d 0) 0 (fun _ => 0) := ⟨rfl, fun _ _ => by omega, fun u hu h0 => by rw [hself u hu]; exact hf.pos u hu h0, by rw [chipsOf_eq hself]; exact hf.all⟩
  obtain ⟨M2, hM2, -, -, -, -, -, hdb2, -⟩ := div_limsB hdv
  have h1 := (redF_eq hIs (by omega) hn12 (fun u => by have := hdb2 u; omega) hes).2
  rw [redR_t (div_burn hdv), Int.toNat_natCast]
  show chipsOf (n + 1) (Dv _ es (redF (n + 1) es _ 0)) = _
  rw [← h1, chipsOf_eq hself, ← hR]
/-- d is won if an effective divisor has its reduced divisor -/
theorem in_win (hd : divB 60 (M : Int) es d = true) (hk : degB d d.length ≤ 7) (he : e ∈ effB M (degB d d.length)) (hex : ∃ f, IsRed M es e 0 f) (h : redR (M : Int) es d 0 = redR (M : Int) es e 0) : 0 ≤ chipR (M : Int) es d 0 := by
  have h1 := eff_div (divB_all hd).1 hk he
  obtain ⟨h2, h3⟩ := effB_mem _ _ e he
  obtain ⟨M', hM, hM0, hM6, hn12, hdl, hes, hdb, hcn⟩ := div_limsB h1
  obtain rfl : M' = M := by omega
  obtain ⟨r1, r2, r3, r4⟩ := red_facts h1 hex
  obtain ⟨f0, hf0⟩ := hex
  have hf := redF_is hf0
  have hw := red_won (fun u _ => (getD_boundC (d := e) (lo := 0) (hi := 7) (fun x hx => by have := h3 x hx; omega) (by omega) (by omega) u).1) hf hM0 hn12 (fun u => by have := hdb u; omega) hes 0 hM0
  unfold chipR
  rw [h]
  show 0 ≤ (redR (M' : Int) es e 0).getD 0 0
  rw [r4 0 hM0]
  exact hw
end
end Go.Proofs.Ytklaanohbpcifaa

/- The plain facts of the program's ways: reduced divisors that are the same have one degree; a divisor is won if its reduced divisor has no debt. -/
namespace Go.Proofs.Ytklaanohbpcifaa
open Go.RowKit

section
variable {M : Nat} {es : List (Int × Int)} {a b d : List Int}
theorem eqv_red (h1 : divB 60 (M : Int) es a = true) (h2 : divB 60 (M : Int) es b = true) (ha : ∃ f, IsRed M es a 0 f) (hb : ∃ f, IsRed M es b 0 f) : eqvB (M : Int) es a b = decide (redR (M : Int) es a 0 = redR (M : Int) es b 0) := by
  by_cases h : redR (M : Int) es a 0 = redR (M : Int) es b 0
  · have h3 := (red_facts h1 ha).2.2.1
    have h4 := (red_facts h2 hb).2.2.1
    exact eqv_t h1 h2 (by rw [← h3, ← h4, h])
  · rw [decide_eq_false h]
    simp [eqvB, h]
theorem posAll_iff {xs : List Int} : posAll xs = true ↔ ∀ x ∈ xs, 0 ≤ x := by
  unfold posAll posB
  rw [List.all_eq_true]
  exact ⟨fun h x hx => of_decide_eq_true (h x hx), fun h x hx => decide_eq_true (h x hx)⟩
theorem win_red (hd : divB 60 (M : Int) es d = true) (hex : ∃ f, IsRed M es d 0 f) : winB (M : Int) es d = posAll (redR (M : Int) es d 0) := by
  obtain ⟨r1, r2, -, -⟩ := red_facts hd hex
  obtain ⟨M', hM, hM0, -⟩ := div_limsB hd
  obtain rfl : M' = M := by omega
  unfold winB
  rw [div_burn hd, Bool.true_and]
  by_cases h : 0 ≤ chipR (M' : Int) es d 0
  · rw [decide_eq_true h]
    refine (posAll_iff.2 fun y hy => ?_).symm
    obtain ⟨u, hu⟩ := List.getElem?_of_mem hy
    have hul := (List.getElem?_eq_some_iff.1 hu).1
    have hg : (redR (M' : Int) es d 0).getD u 0 = y := by simp [List.getD, hu]
    by_cases e : u = 0
    · subst e
      unfold chipR at h
      rw [← hg]
      exact h
    · have := (r2 u (by omega) e).1
      omega
  · rw [decide_eq_false h]
    cases hp : posAll (redR (M' : Int) es d 0) with
    | false => rfl
    | true =>
      exfalso
      refine h (posAll_iff.1 hp _ ?_)
      unfold chipR
      cases hl : redR (M' : Int) es d 0 with
      | nil => rw [hl] at r1; simp at r1; omega
      | cons x l => simp [List.getD]
end
end Go.Proofs.Ytklaanohbpcifaa

/- laws.FnSystems and laws.FnRanks: the plain facts of what is listed. -/
namespace Go.Proofs.Ytklaanohbpcifaa
open Go.RowKit

section
variable {M : Nat} {es : List (Int × Int)} {d e : List Int}
/-- what is listed is effective and of the class -/
theorem sys_mem (hd : divB 60 (M : Int) es d = true) (hk : degB d d.length ≤ 7) (h : e ∈ einB (M : Int) es d) : e ∈ effB M (degB d d.length) ∧ redR (M : Int) es d 0 = redR (M : Int) es e 0 ∧ e.length = M ∧ posAll e = true ∧ eqvB (M : Int) es d e = true := by
  cases hw : winB (M : Int) es d with
  | false => rw [einB_n hw] at h; cases h
  | true =>
    rw [einB_t (ein_yes hd hk) hw, Int.toNat_natCast] at h
    unfold einL at h
    rw [List.mem_filter, decide_eq_true_eq] at h
    obtain ⟨h1, h2⟩ := h
    obtain ⟨h3, h4⟩ := effB_mem _ _ e h1
    refine ⟨h1, h2, h3, posAll_iff.2 fun y hy => (h4 y hy).1, ?_⟩
    rw [eff_eqv hd hk h1, decide_eq_true h2]
theorem sys_sorted (N : Int) (es : List (Int × Int)) (d : List Int) : (einB N es d).Pairwise lexLt := by
  unfold einB
  split
  · unfold einL
    exact List.Pairwise.filter _ (effB_sorted _ _)
  · exact List.Pairwise.nil
/-- there is one just where d is won -/
theorem sys_some (hd : divB 60 (M : Int) es d = true) (hk : degB d d.length ≤ 7) (hex : ∃ f, IsRed M es d 0 f) : decide (0 < (einB (M : Int) es d).length) = winB (M : Int) es d := by
  cases hw : winB (M : Int) es d with
  | false => rw [einB_n hw]; simp
  | true =>
    have h1 : 0 ≤ chipR (M : Int) es d 0 := by
      simp only [winB, Bool.and_eq_true, decide_eq_true_eq] at hw
      exact hw.2
    obtain ⟨h2, h3⟩ := win_in hd hk hex h1
    rw [einB_t (ein_yes hd hk) hw, Int.toNat_natCast]
    have h4 : redR (M : Int) es d 0 ∈ einL (M : Int) es d (effB M (degB d d.length)) := by
      unfold einL
      rw [List.mem_filter, decide_eq_true_eq]
      exact ⟨h2, h3.symm⟩
    rw [decide_eq_true_eq]
    exact List.length_pos_of_mem h4
/-- an effective divisor of the degree is listed just where it is of the class -/
theorem sys_in (hd : divB 60 (M : Int) es d = true) (hk : degB d d.length ≤ 7) (he : e ∈ effB M (degB d d.length)) (hex : ∃ f, IsRed M es e 0 f) : eqvB (M : Int) es d e = decide (e ∈ einB (M : Int) es d) := by
  rw [eff_eqv hd hk he]
  refine decide_eq_decide.2 ⟨fun h => ?_, fun h => (sys_mem hd hk h).2.1⟩
  have h1 := in_win hd hk he hex h
  have hw : winB (M : Int) es d = true := by
    unfold winB
    rw [div_burn hd, decide_eq_true h1]
    rfl
  rw [einB_t (ein_yes hd hk) hw, Int.toNat_natCast]
  unfold einL
  rw [List.mem_filter, decide_eq_true_eq]
  exact ⟨he, h⟩
theorem mem_takeS {L : List (List Int)} {j : Nat} {x : List Int} (h : L[j]? = some x) : decide (e ∈ L.take (j + 1)) = (decide (e ∈ L.take j) || decide (x = e)) := by
  rw [List.take_add_one, h]
  simp only [Option.toList_some, List.mem_append, List.mem_singleton, Bool.decide_or]
  congr 1
  exact decide_eq_decide.2 eq_comm
end
end Go.Proofs.Ytklaanohbpcifaa

/- NegateDivisor: the specification's appended numbers and the program's filled slice are one plain list. -/
namespace Go.Proofs.Ytklaanohbpcifaa
open Go.RowKit

def negB (xs : List Int) : List Int := xs.map fun x => wrap64 (-x)
theorem negB_length (xs : List Int) : (negB xs).length = xs.length := by simp [negB]
theorem negB_len {xs : List Int} (h : xs.length ≤ 1048576) : (negB xs).length ≤ 1048576 := by rw [negB_length]; exact h
theorem negB_at {xs : List Int} {k : Nat} {x : Int} (h : xs[k]? = some x) : (negB xs)[k]? = some (wrap64 (-x)) := by simp [negB, h]
theorem take_snocI {l : List Int} {k : Nat} {x : Int} (h : l[k]? = some x) : l.take (k + 1) = l.take k ++ [x] := by rw [List.take_add_one, h]; rfl


theorem partI_len0 (xs : List Int) : partI xs 0 = List.replicate xs.length 0 := by simp [partI]
end Go.Proofs.Ytklaanohbpcifaa

/- The program's helpers of equivalence: slices.Min, raised, isWon; what reduce gives, as lists. -/
namespace Go.Proofs.Ytklaanohbpcifaa
open Go.RowKit

/-- the program's reduction that has come to its end: its box, its board, the chips and the script -/
structure RedP (w : World) (B pr pb g cg gs M : Nat) (xs ss : List Int) : Prop where
  c0 : w.cell? ⟨pr, 0, none⟩ = some (.pointer (some ⟨pb, 0, none⟩))
  c2 : w.cell? ⟨pr, 2, none⟩ = some (.slice (some ⟨gs, 0, none⟩) M M)
  b1 : w.cell? ⟨pb, 1, none⟩ = some (.slice (some ⟨g, 0, none⟩) M cg)
  xs : OwnI w B (some ⟨g, 0, none⟩) xs
  ss : OwnI w B (some ⟨gs, 0, none⟩) ss
theorem RedP.next {w w' : World} {B pr pb g cg gs M : Nat} {xs ss : List Int} (h : RedP w B pr pb g cg gs M xs ss) (hb : Below w.heap.size w w') : RedP w' B pr pb g cg gs M xs ss :=
  ⟨(hb.cell (World.block_lt_of_cell? w _ h.c0)).trans h.c0, (hb.cell (World.block_lt_of_cell? w _ h.c2)).trans h.c2, (hb.cell (World.block_lt_of_cell? w _ h.b1)).trans h.b1, h.xs.below hb, h.ss.below hb⟩
theorem implRd2 (A D : Option Addr) (c cd M : Nat) (es : List (Int × Int)) (d : List Int) (w : World) (hd : divB 60 (M : Int) es d = true) (hE : EdgeS w w.heap.size A es) (hS : IntS w w.heap.size D d) :
    Calls Try.prog 38 #[.agg #[.int .i64 (M : Int), .slice A es.length c], .slice D d.length cd, .int .i64 0] w (fun e w' => ∃ pr pb g cg gs : Nat, e = .returned (.pointer (some ⟨pr, 0, none⟩)) ∧ RedP w' w.heap.size pr pb g cg gs M (redR (M : Int) es d 0) (scrR (M : Int) es d 0) ∧ Below w.heap.size w w') := by
  obtain ⟨M', hM, h0, h6, hn, hl, hes, hdb, hc⟩ := div_limsB hd
  obtain rfl : M' = M := by omega
  refine (reduce_any A D c cd M' 0 es d w h0 h6 h0 hl hn hes hdb hc.cut hE hS).mono ?_
  rintro e w' ⟨pr, pb, g, cg, gs, f, rfl, hf, hr, hN, hb⟩
  have h1 := red_same hf h0 hn hdb hes
  have hb0 := div_burn hd
  have hx := hr.chips.own (base := w.heap.size) hN.n1
  have hs := hr.scr.own (base := w.heap.size) hN.n2
  rw [h1.2] at hx
  rw [h1.1] at hs
  refine ⟨pr, pb, g, cg, gs, rfl, ⟨by rw [hr.red.cell]; rfl, by rw [hr.red.cell]; rfl, by rw [hr.brd.cell]; rfl, ?_, ?_⟩, hb⟩
  · rw [redR_t hb0, Int.toNat_natCast]
    exact hx
  · rw [scrR_t hb0, Int.toNat_natCast]
    exact hs
/-- there is a reducing script: reduce always comes to its end -/
theorem red_ex (A D : Option Addr) (M : Nat) (es : List (Int × Int)) (d : List Int) (w : World) (hd : divB 60 (M : Int) es d = true) (hE : EdgeS w w.heap.size A es) (hS : IntS w w.heap.size D d) : ∃ f, IsRed M es d 0 f := by
  obtain ⟨M', hM, h0, h6, hn, hl, hes, hdb, hc⟩ := div_limsB hd
  obtain rfl : M' = M := by omega
  obtain ⟨e, w', fr, ⟨pr, pb, g, cg, gs, f, -, hf, -⟩, -⟩ := reduce_any A D 0 0 M' 0 es d w h0 h6 h0 hl hn hes hdb hc.cut hE hS []
  exact ⟨f, hf⟩
set_option maxHeartbeats 1000000 in
theorem isWon_any (B pr pb g cg gs M : Nat) (xs ss : List Int) (w : World) (hl : xs.length = M) (hM : M ≤ 1048576) (h : RedP w B pr pb g cg gs M xs ss) :
    Calls Try.prog 39 #[.pointer (some ⟨pr, 0, none⟩)] w fun e w' => e = .returned (.bool (posAll xs)) ∧ Below w.heap.size w w' := by
  have HE := implEff (some ⟨g, 0, none⟩) cg xs w (by omega) h.xs.ints
  rw [hl] at HE
  have HE2 := Lib.hid HE
  have c0 := h.c0
  have b1 := h.b1
  clear h hl HE
  go_enter Try.func39, Try.ntmps39
  go_wp2_with fail
  refine HE2.out.mono ?_
  rintro e w1 ⟨rfl, hb⟩
  go_wp2
  go_ret
  exact ⟨rfl, hb⟩
end Go.Proofs.Ytklaanohbpcifaa
