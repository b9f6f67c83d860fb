/- slices.BinarySearchFunc at edges: the place ahead of the first edge that does not lie before the target. -/
import Derived.Test.YtbojbifpaecbcaaDrawM
import Derived.Test.YtbojbifpaecbcaaBB
import Derived.Deep.LoopGhost
namespace Go.Proofs.Ytbojbifpaecbcaa
open Go.RowKit

/-- ahead of the first edge that does not lie before e -/
def lowE (es : List (Int × Int)) (e : Int × Int) : Nat := es.findIdx fun x => !ltE x e
theorem lowE_le (es : List (Int × Int)) (e : Int × Int) : lowE es e ≤ es.length := List.findIdx_le_length
theorem lt_of_le_lt {x y e : Int × Int} (h1 : ltE y x = false) (h2 : ltE y e = true) : ltE x e = true := by
  simp only [ltE, Bool.or_eq_true, Bool.and_eq_true, decide_eq_true_eq, Bool.or_eq_false_iff, Bool.and_eq_false_iff, decide_eq_false_iff_not] at h1 h2 ⊢
  omega
theorem srt_at {es : List (Int × Int)} (h : Srt es) {s t : Nat} (hst : s ≤ t) {x y : Int × Int} (hx : es[s]? = some x) (hy : es[t]? = some y) : ltE y x = false := by
  by_cases e : s = t
  · subst e
    rw [hx] at hy
    injection hy with hy
    rw [hy]
    exact ltE_irr _
  · have hs := (List.getElem?_eq_some_iff.1 hx).1
    have ht := (List.getElem?_eq_some_iff.1 hy).1
    have := (List.pairwise_iff_getElem.1 h) s t hs ht (by omega)
    rw [List.getElem?_eq_getElem hs] at hx
    rw [List.getElem?_eq_getElem ht] at hy
    injection hx with hx
    injection hy with hy
    rwa [hx, hy] at this
/-- the search's claim: below lo all lie before e, from hi on none does -/
structure BsI (es : List (Int × Int)) (e : Int × Int) (lo hi : Nat) : Prop where
  lt : ∀ t x, t < lo → es[t]? = some x → ltE x e = true
  ge : ∀ t x, hi ≤ t → es[t]? = some x → ltE x e = false
theorem BsI.start (es : List (Int × Int)) (e : Int × Int) : BsI es e 0 es.length := ⟨fun t x h => by omega, fun t x h hx => by have := (List.getElem?_eq_some_iff.1 hx).1; omega⟩
theorem BsI.up {es : List (Int × Int)} {e x : Int × Int} {lo hi m : Nat} (h : BsI es e lo hi) (hs : Srt es) (hx : es[m]? = some x) (hl : ltE x e = true) : BsI es e (m + 1) hi := ⟨fun t y ht hy => lt_of_le_lt (srt_at hs (by omega) hy hx) hl, h.ge⟩
theorem BsI.down {es : List (Int × Int)} {e x : Int × Int} {lo hi m : Nat} (h : BsI es e lo hi) (hs : Srt es) (hx : es[m]? = some x) (hl : ltE x e = false) : BsI es e lo m := ⟨h.lt, fun t y ht hy => by
  cases hc : ltE y e with
  | false => rfl
  | true =>
    rw [lt_of_le_lt (srt_at hs ht hx hy) hc] at hl
    cases hl⟩
theorem BsI.end_ {es : List (Int × Int)} {e : Int × Int} {lo : Nat} (h : BsI es e lo lo) (hl : lo ≤ es.length) : lowE es e = lo := by
  unfold lowE
  by_cases hn : lo < es.length
  · rw [List.findIdx_eq hn]
    refine ⟨by rw [h.ge lo _ (Nat.le_refl _) (List.getElem?_eq_getElem hn)]; rfl, fun j hj => ?_⟩
    rw [h.lt j _ hj (List.getElem?_eq_getElem (by omega))]
    rfl
  · have : lo = es.length := by omega
    subst this
    rw [List.findIdx_eq_length]
    intro x hx
    obtain ⟨i, hi⟩ := List.getElem?_of_mem hx
    rw [h.lt i x (List.getElem?_eq_some_iff.1 hi).1 hi]
    rfl
set_option maxRecDepth 100000 in
set_option maxHeartbeats 2000000 in
theorem bs_any (A : Option Addr) (c : Nat) (es : List (Int × Int)) (e1 e2 : Int) (w : World) (hn : es.length ≤ 1048576) (hs : Srt es) (hE : EdgeS w w.heap.size A es) :
    Calls Try.prog 58 #[.slice A es.length c, .agg #[.int .i64 e1, .int .i64 e2], .func (.func 59) #[] #[]] w fun e w' => ∃ b : Bool, e = .returned (.tuple #[.int .i64 (lowE es (e1, e2)), .bool b]) ∧ Below w.heap.size w w' := by
  have HE := Lib.hid hE
  have HSR := Lib.hid hs
  obtain ⟨W0, hW0⟩ : ∃ X : World, X = w.alloc (Obj.cells #[.int .i64 e1, .int .i64 e2] 36) := ⟨_, rfl⟩
  have hb0 : Below w.heap.size w W0 := by rw [hW0]; exact (Below.refl _ _).alloc (Nat.le_refl _) _
  have hk0 : Blk W0 w.heap.size 36 #[.int .i64 e1, .int .i64 e2] := by rw [hW0]; exact Blk.new w _ _
  have HB0 := Lib.hid hb0
  have HK0 := Lib.hid hk0
  have HW0 := Lib.hid hW0
  have hs0 : W0.heap.size = w.heap.size + 1 := by rw [hW0]; simp
  clear hE hs hW0 hb0 hk0
  go_enter Try.func58, Try.ntmps58
  go_wp2
  rw [← HW0.out]
  go_loopg [9, 10] es.length (fun kx s9 s10 wr => ∃ lo hi : Nat, s9 = .int .i64 lo ∧ s10 = .int .i64 hi ∧ lo ≤ hi ∧ hi ≤ es.length ∧ hi - lo ≤ kx ∧ Hid (BsI es (e1, e2) lo hi) ∧ Below W0.heap.size W0 wr)
  case atStart => exact ⟨0, es.length, rfl, rfl, Nat.zero_le _, Nat.le_refl _, by omega, Lib.hid (BsI.start es (e1, e2)), Below.refl _ _⟩
  case round =>
    obtain ⟨lo, hi, rfl, rfl, hlh, hin, hg, HI, hb⟩ := hrel
    have hsz := hb.size
    have hkk := (HK0.out.below hb HK0.out.lt)
    have q0 : wr.cell? ⟨w.heap.size, 0, none⟩ = some (.int .i64 e1) := by rw [hkk.cell]; rfl
    have q1 : wr.cell? ⟨w.heap.size, 1, none⟩ = some (.int .i64 e2) := by rw [hkk.cell]; rfl
    have hlo0 : (0 : Int) ≤ (lo : Int) := Int.natCast_nonneg _
    have hhi0 : (hi : Int) ≤ 1048576 := by omega
    by_cases hlt : lo < hi
    · obtain ⟨m, hm⟩ : ∃ m, m = (lo + hi) / 2 := ⟨_, rfl⟩
      have hmi : ((lo : Int) + (hi : Int)) / 2 = (m : Int) := by omega
      have hml : m < es.length := by omega
      obtain ⟨b1, o1, e, rfl, hb1, he, hc0, hc1⟩ := (HE.out.below (HB0.out.trans (hb.mono HB0.out.size))).at_ hml
      have hlt2 : (lo : Int) < (hi : Int) := by omega
      have hm0 : (0 : Int) ≤ (m : Int) := Int.natCast_nonneg _
      have hm1 : (m : Int) < (es.length : Int) := by omega
      have HM := Lib.hid hm
      have HC := Lib.hid (cmpE_lt e (e1, e2))
      have HEE := Lib.hid he
      have hl1 : w.heap.size < W0.heap.size := by omega
      clear hm he hkk
      go_wp2_with fail
      go_region_held3 (fun w' => w'.cell? ⟨b1, o1 + m * 2, none⟩ = some (.int .i64 e.1) ∧ w'.cell? ⟨b1, o1 + m * 2 + 1, none⟩ = some (.int .i64 e.2) ∧ w'.cell? ⟨w.heap.size, 0, none⟩ = some (.int .i64 e1) ∧ w'.cell? ⟨w.heap.size, 1, none⟩ = some (.int .i64 e2) ∧ Below W0.heap.size W0 w')
        (first
          | exact ⟨hc0, hc1, q0, q1, hb.drew⟩
          | assumption
          | exact keep4 (by assumption) hb6 (by simp only; omega) (by simp only; omega) (by simp only; omega) (by simp only; omega))
        (first
          | (go_at_call 59; refine (compareEdges_any _ _ _ _ _).mono ?_; rintro e w6 ⟨rfl, hb6⟩))
      have hb7 : Below W0.heap.size W0 w6 := And.right (And.right (And.right (And.right (by assumption))))
      by_cases hlt3 : cmpE (e.1, e.2) (e1, e2) < 0
      · have HT := HC.out
        rw [decide_eq_true hlt3] at HT
        have HI2 := Lib.hid (HI.out.up HSR.out HEE.out HT.symm)
        clear HT
        go_wp2
        go_roundg (hi - (m + 1))
        case measure => have := HM.out; omega
        case rel => exact ⟨m + 1, hi, by go_num, rfl, by have := HM.out; omega, hin, Nat.le_refl _, HI2, hb7⟩
      · have HT := HC.out
        rw [decide_eq_false hlt3] at HT
        have HI2 := Lib.hid (HI.out.down HSR.out HEE.out HT.symm)
        clear HT
        go_wp2
        go_roundg (m - lo)
        case measure => have := HM.out; omega
        case rel => exact ⟨lo, m, rfl, rfl, by have := HM.out; omega, by omega, Nat.le_refl _, HI2, hb7⟩
    · obtain rfl : hi = lo := by omega
      have HLE := Lib.hid (HI.out.end_ hin)
      have hlt2 : ¬ ((hi : Int) < (hi : Int)) := by omega
      by_cases hln : hi < es.length
      · obtain ⟨b1, o1, e, rfl, hb1, he, hc0, hc1⟩ := (HE.out.below (HB0.out.trans (hb.mono HB0.out.size))).at_ hln
        have hm0 : (0 : Int) ≤ (hi : Int) := Int.natCast_nonneg _
        have hm1 : (hi : Int) < (es.length : Int) := by omega
        clear he hkk
        go_wp2_with fail
        go_region_held3 (fun w' => w'.cell? ⟨b1, o1 + hi * 2, none⟩ = some (.int .i64 e.1) ∧ w'.cell? ⟨b1, o1 + hi * 2 + 1, none⟩ = some (.int .i64 e.2) ∧ w'.cell? ⟨w.heap.size, 0, none⟩ = some (.int .i64 e1) ∧ w'.cell? ⟨w.heap.size, 1, none⟩ = some (.int .i64 e2) ∧ Below W0.heap.size W0 w')
          (first
            | exact ⟨hc0, hc1, q0, q1, hb.drew⟩
            | assumption
            | exact keep4 (by assumption) hb6 (by simp only; omega) (by simp only; omega) (by simp only; omega) (by simp only; omega))
          (first
            | (go_at_call 59; refine (compareEdges_any _ _ _ _ _).mono ?_; rintro e w6 ⟨rfl, hb6⟩))
        have hb7 : Below W0.heap.size W0 w6 := And.right (And.right (And.right (And.right (by assumption))))
        go_wp2
        go_ret2
        exact ⟨_, by rw [HLE.out]; rfl, HB0.out.trans (hb7.mono HB0.out.size)⟩
      · have hm1 : ¬ ((hi : Int) < (es.length : Int)) := by omega
        clear hkk
        go_wp2_with fail
        go_quiet (fail)
        go_wp2
        go_ret2
        exact ⟨false, by rw [HLE.out]; rfl, below_drewN (HB0.out.trans (hb.mono HB0.out.size)) _⟩
end Go.Proofs.Ytbojbifpaecbcaa
