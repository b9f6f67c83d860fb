/- Which vertices are reached: the plain math, and the specification's queue. -/
import Derived.Test.YtkmbdclhjdbhpabSorted
import Derived.Test.YtkmbdclhjdbhpabEdgesOk
import Derived.Test.YtkmbdclhjdbhpabIntB
import Derived.BigQuiet
namespace Go.Proofs.Ytkmbdclhjdbhpab
open Go.RowKit

def Touch (es : List (Int × Int)) (a b : Int) : Prop := (a, b) ∈ es ∨ (b, a) ∈ es
theorem Touch.symm {es : List (Int × Int)} {a b : Int} (h : Touch es a b) : Touch es b a := Or.symm h
/-- u is reached from v by at most k edges -/
inductive Near (es : List (Int × Int)) (v : Int) : Nat → Int → Prop
  | start : Near es v 0 v
  | stay {k : Nat} {u : Int} : Near es v k u → Near es v (k + 1) u
  | step {k : Nat} {a b : Int} : Near es v k a → Touch es a b → Near es v (k + 1) b
theorem Near.up {es : List (Int × Int)} {v u : Int} {k m : Nat} (h : Near es v k u) (hm : k ≤ m) : Near es v m u := by
  induction m with
  | zero => have : k = 0 := by omega
            subst this; exact h
  | succ m ih =>
    rcases Nat.lt_or_ge m k with g | g
    · have : k = m + 1 := by omega
      subst this; exact h
    · exact .stay (ih g)
/-- every vertex is reached from 0 -/
def Conn (N : Int) (es : List (Int × Int)) : Prop := ∀ u, 0 ≤ u → u < N → ∃ k, Near es 0 k u
open Classical in
noncomputable def connB (N : Int) (es : List (Int × Int)) : Bool := decide (Conn N es)
theorem connB_t {N : Int} {es : List (Int × Int)} (h : Conn N es) : connB N es = true := by simp [connB, h]
theorem connB_f {N : Int} {es : List (Int × Int)} (h : ¬ Conn N es) : connB N es = false := by simp [connB, h]
theorem all_edge {N : Int} {es : List (Int × Int)} (h : edgesB N es = true) {e : Int × Int} (he : e ∈ es) : 0 ≤ e.1 ∧ e.1 < e.2 ∧ e.2 < N := by
  simp only [edgesB, Bool.and_eq_true, List.all_eq_true] at h
  have := h.2 e he
  simp only [edgeOk, Bool.and_eq_true, decide_eq_true_eq] at this
  exact ⟨this.1.1, this.1.2, this.2⟩
theorem edgesB_lims {N : Int} {es : List (Int × Int)} (h : edgesB N es = true) : 1 ≤ N ∧ N ≤ 6 ∧ es.length ≤ 12 := by
  simp only [edgesB, Bool.and_eq_true, decide_eq_true_eq] at h
  exact ⟨h.1.1.1, h.1.1.2, h.1.2⟩
theorem touch_in {N : Int} {es : List (Int × Int)} (h : edgesB N es = true) {a b : Int} (ht : Touch es a b) : 0 ≤ b ∧ b < N := by
  rcases ht with g | g
  · have := all_edge h g; simp only at this; omega
  · have := all_edge h g; simp only at this; omega

theorem nodup_len : ∀ (l m : List Int), l.Nodup → (∀ x ∈ l, x ∈ m) → l.length ≤ m.length
  | [], m, _, _ => Nat.zero_le _
  | a :: l, m, hd, hs => by
    rw [List.nodup_cons] at hd
    have ha : a ∈ m := hs a (by simp)
    have h1 := nodup_len l (m.erase a) hd.2 fun x hx => (List.mem_erase_of_ne (by rintro rfl; exact hd.1 hx)).2 (hs x (by simp [hx]))
    have h2 := List.length_erase_of_mem ha
    have h3 := List.length_pos_of_mem ha
    rw [List.length_cons]
    omega
theorem nodup_full (l m : List Int) (hd : l.Nodup) (hs : ∀ x ∈ l, x ∈ m) (hl : m.length ≤ l.length) : ∀ x ∈ m, x ∈ l := by
  intro x hx
  apply Classical.byContradiction
  intro hn
  have h1 := nodup_len l (m.erase x) hd fun y hy => (List.mem_erase_of_ne (by rintro rfl; exact hn hy)).2 (hs y hy)
  have h2 := List.length_erase_of_mem hx
  have h3 := List.length_pos_of_mem hx
  omega
/-- 0, 1, .., n - 1 -/
def upTo (n : Nat) : List Int := (List.range n).map Int.ofNat
theorem mem_upTo {n : Nat} {x : Int} : x ∈ upTo n ↔ 0 ≤ x ∧ x < n := by
  simp only [upTo, List.mem_map, List.mem_range]
  constructor
  · rintro ⟨i, h, rfl⟩
    simp only [Int.ofNat_eq_natCast]
    omega
  · rintro ⟨h1, h2⟩; exact ⟨x.toNat, by omega, by simp only [Int.ofNat_eq_natCast]; omega⟩
theorem len_upTo (n : Nat) : (upTo n).length = n := by simp [upTo]
theorem nodup_upTo (n : Nat) : (upTo n).Nodup := by
  unfold upTo
  rw [List.nodup_iff_pairwise_ne, List.pairwise_map]
  exact List.Pairwise.imp (fun {a b} h => by simp only [Int.ofNat_eq_natCast]; omega) (List.nodup_iff_pairwise_ne.1 List.nodup_range)

/-- the queue of the vertices found -/
structure Queue (N : Int) (es : List (Int × Int)) (q : List Int) : Prop where
  zero : 0 ∈ q
  nodup : q.Nodup
  bound : ∀ x ∈ q, 0 ≤ x ∧ x < N
  near : ∀ x ∈ q, ∃ k, Near es 0 k x
theorem Queue.start {N : Int} (es : List (Int × Int)) (h : 1 ≤ N) : Queue N es [0] where
  zero := by simp
  nodup := by simp
  bound := fun x hx => by simp at hx; omega
  near := fun x hx => by simp at hx; subst hx; exact ⟨0, .start⟩
theorem Queue.push {N : Int} {es : List (Int × Int)} {q : List Int} (h : Queue N es q) {x b : Int} (hx : x ∈ q) (ht : Touch es x b) (hb : b ∉ q) (hE : edgesB N es = true) : Queue N es (q ++ [b]) where
  zero := by simp [h.zero]
  nodup := by
    rw [List.nodup_append]
    exact ⟨h.nodup, by simp, fun a ha c hc => by simp at hc; subst hc; exact fun he => hb (he ▸ ha)⟩
  bound := fun y hy => by
    rw [List.mem_append] at hy
    rcases hy with g | g
    · exact h.bound y g
    · simp at g; subst g; exact touch_in hE ht
  near := fun y hy => by
    rw [List.mem_append] at hy
    rcases hy with g | g
    · exact h.near y g
    · simp at g; subst g
      obtain ⟨k, hk⟩ := h.near x hx
      exact ⟨k + 1, .step hk ht⟩
theorem Queue.len {N : Int} {es : List (Int × Int)} {q : List Int} (h : Queue N es q) : (q.length : Int) ≤ N := by
  have := nodup_len q (upTo N.toNat) h.nodup fun x hx => mem_upTo.2 (by have := h.bound x hx; omega)
  rw [len_upTo] at this
  have := h.bound 0 h.zero
  omega
theorem Queue.full {N : Int} {es : List (Int × Int)} {q : List Int} (h : Queue N es q) (hc : ∀ x ∈ q, ∀ b, Touch es x b → b ∈ q) : decide ((q.length : Int) = N) = connB N es := by
  have hN := h.bound 0 h.zero
  have hin : ∀ k u, Near es 0 k u → u ∈ q := by
    intro k u hk
    induction hk with
    | start => exact h.zero
    | stay _ ih => exact ih
    | step _ ht ih => exact hc _ ih _ ht
  by_cases he : (q.length : Int) = N
  · rw [decide_eq_true he, connB_t]
    intro u h0 h1
    refine h.near u (nodup_full q (upTo N.toNat) h.nodup (fun x hx => mem_upTo.2 (by have := h.bound x hx; omega)) (by rw [len_upTo]; omega) u (mem_upTo.2 (by omega)))
  · rw [decide_eq_false he, connB_f]
    intro hcn
    have := nodup_len (upTo N.toNat) q (nodup_upTo _) fun x hx => by
      obtain ⟨k, hk⟩ := hcn x (by have := mem_upTo.1 hx; omega) (by have := mem_upTo.1 hx; omega)
      exact hin k x hk
    rw [len_upTo] at this
    have := h.len
    omega

theorem has_miss {xs : List Int} {n : Int} (h : ∀ (j : Nat) (x : Int), xs[j]? = some x → x ≠ n) : xs.contains n = false := by
  rw [List.contains_eq_any_beq, List.any_eq_false]
  intro x hx
  obtain ⟨j, hj⟩ := List.getElem?_of_mem hx
  have := h j x hj
  simp
  exact fun g => this g.symm
set_option maxHeartbeats 400000 in
theorem l02Has_any (A : Option Addr) (c : Nat) (xs : List Int) (n : Int) (w : World) (hn : xs.length ≤ 1048576) (hS : IntS w w.heap.size A xs) :
    Calls Try.prog 113 #[.slice A xs.length c, .int .i64 n] w fun e w' => e = .returned (.bool (xs.contains n)) ∧ w' = w := by
  have HS := Lib.hid hS
  clear hS
  go_enter Try.func113, Try.ntmps113
  go_wp2
  go_loopw [9] (fun i wr => ∃ k : Nat, k ≤ xs.length ∧ i = .int .i64 k ∧ (∀ (j : Nat) (x : Int), j < k → xs[j]? = some x → x ≠ n) ∧ wr = w) (fun i _ => xs.length - (intOf i).toNat)
  case atStart => exact ⟨0, Nat.zero_le _, rfl, fun j x h => absurd h (by omega), rfl⟩
  case round =>
    obtain ⟨k, hk, rfl, hmiss, rfl⟩ := hrel
    have HM := Lib.hid hmiss
    clear hmiss
    by_cases hlt : k < xs.length
    · obtain ⟨b1, o1, x, rfl, hb1, he, hc0⟩ := HS.out.at_ hlt
      have HX := Lib.hid he
      have hi0 : (0 : Int) ≤ (k : Int) := Int.natCast_nonneg _
      have hi1 : (k : Int) < (xs.length : Int) := by omega
      clear he
      by_cases h : x = n
      · have HR : Hid (xs.contains n = true) := Lib.hid (by rw [List.contains_iff_mem]; exact h ▸ List.mem_of_getElem? HX.out)
        subst h
        go_wp2
        go_ret
        exact ⟨ret_boolE HR.out.symm, by trivial⟩
      · have H2 := Lib.hid h
        have h3 : (x == n) = false := by simp [h]
        clear h
        go_wp2
        exact ⟨⟨k + 1, by omega, by go_num, fun j y hj hy => by
          rcases Nat.lt_or_ge j k with g | g
          · exact HM.out j y g hy
          · have : j = k := by omega
            subst this
            rw [HX.out] at hy
            injection hy with hy
            subst hy; exact H2.out, by trivial⟩, by simp [intOf]; omega⟩
    · have HR := Lib.hid (has_miss (xs := xs) (n := n) fun j x hx => HM.out j x (by have := (List.getElem?_eq_some_iff.1 hx).1; omega) hx)
      go_wp2
      go_ret
      exact ⟨ret_boolE HR.out.symm, by trivial⟩
end Go.Proofs.Ytkmbdclhjdbhpab
