/- l06Lift: the specification's script lifted so that its least element is 0. -/
import Derived.Test.YtcfhkaefjhcglaaBG
import Derived.Test.YtcfhkaefjhcglaaBA
namespace Go.Proofs.Ytcfhkaefjhcglaa
open Go.RowKit

def leastK (x : Int) (l : List Int) (k : Nat) : Int := leastF x (l.take k)
theorem leastK_zero (x : Int) (l : List Int) : leastK x l 0 = x := rfl
theorem leastK_step {y : Int} {l : List Int} {k : Nat} {x : Int} (h : l[k]? = some x) : leastK y l (k + 1) = if x < leastK y l k then x else leastK y l k := by
  have h2 : leastK y l (k + 1) = min (leastK y l k) x := by
    unfold leastK
    rw [List.take_add_one, h]
    exact leastF_snoc (l.take k) y x
  rw [h2]
  split <;> omega
theorem leastK_all {y : Int} {l : List Int} {k : Nat} (h : l[0]? = some y) (hk : l.length ≤ k) : leastK y l k = leastB l := by
  unfold leastK
  rw [List.take_of_length_le hk]
  cases l with
  | nil => simp at h
  | cons z m =>
    simp at h
    subst h
    rw [leastF, leastB, Int.min_self]
theorem take_snocL {l : List Int} {k : Nat} {x : Int} (h : l[k]? = some x) : l.take (k + 1) = l.take k ++ [x] := by rw [List.take_add_one, h]; rfl

set_option maxRecDepth 100000 in
set_option maxHeartbeats 2000000 in
theorem specLift (A : Option Addr) (c : Nat) (xs : List Int) (w : World) (h0 : 0 < xs.length) (hn : xs.length ≤ 1048576) (hS : IntS w w.heap.size A xs) :
    Calls Try.prog 87 #[.slice A xs.length c] w (GivesInts w (liftB xs)) := by
  obtain ⟨i0, hi, hz0, hz1, hz2⟩ := info_parts intInfo
  have HS := Lib.hid hS
  obtain ⟨b1, o1, y, rfl, hb1, hey, hc0⟩ := hS.at_ h0
  have HY := Lib.hid hey
  have hx0 : (0 : Int) < (xs.length : Int) := by omega
  replace hc0 : w.cell? ⟨b1, o1, none⟩ = some (.int .i64 y) := hc0
  clear hS hey
  go_enter Try.func87, Try.ntmps87
  go_wp2
  go_loop [3, 5, 14] (fun m _ i => ∃ k : Nat, k ≤ xs.length ∧ i = .int .i64 k ∧ m = .int .i64 (leastK y xs k)) (fun _ _ i => xs.length - (intOf i).toNat)
  case atStart => exact ⟨0, Nat.zero_le _, rfl, rfl⟩
  case round =>
    obtain ⟨k, hk, rfl, rfl⟩ := hrel
    by_cases hlt : k < xs.length
    · obtain ⟨b2, o2, x, hq, hb2, he, hd0⟩ := HS.out.at_ hlt
      obtain ⟨rfl, rfl⟩ : b1 = b2 ∧ o1 = o2 := by simpa using hq
      have hj0 : (0 : Int) ≤ (k : Int) := Int.natCast_nonneg _
      have hj1 : (k : Int) < (xs.length : Int) := by omega
      have HD := Lib.hid (leastK_step (y := y) he)
      clear he hq
      go_wp2
      exact ⟨⟨k + 1, by omega, by go_num, by rw [HD.out]⟩, by simp [intOf]; omega⟩
    · have HJ := Lib.hid (leastK_all HY.out (show xs.length ≤ k by omega))
      rw [HJ.out]
      clear HJ
      go_wp2
      go_loopw [6, 8, 25] (fun v _ i wr => ∃ k : Nat, k ≤ xs.length ∧ i = .int .i64 k ∧ wr.ownsRow w.heap.size 3 1 v k (intCells ((liftB xs).take k)) ∧ Below w.heap.size w wr) (fun _ _ i _ => xs.length - (intOf i).toNat)
      case atStart =>
        refine ⟨0, Nat.zero_le _, rfl, ?_, (Below.refl _ _).alloc (Nat.le_refl _) _⟩
        exact ⟨rfl, .inr ⟨w.heap.size, 0, #[], rfl, Nat.le_refl _, heap_alloc_new w _, Nat.le_refl _, Nat.zero_le _, rfl, rfl⟩⟩
      case round =>
        obtain ⟨k, hk, rfl, hown, hb⟩ := hrel
        have HO := Lib.hid hown
        have hbn := hb.size
        clear hown
        by_cases hlt : k < xs.length
        · obtain ⟨b2, o2, x, hq, hb2, he, hd0⟩ := (HS.out.below hb).at_ hlt
          obtain ⟨rfl, rfl⟩ : b1 = b2 ∧ o1 = o2 := by simpa using hq
          have hi0 : (0 : Int) ≤ (k : Int) := Int.natCast_nonneg _
          have hi1 : (k : Int) < (xs.length : Int) := by omega
          have HMT := Lib.hid (take_snocL (liftB_at he))
          clear he hq
          go_wp2_with (at_builtin; refine wpList_append_own _ rfl _ _ 27 rfl w.heap.size 3 i0 (.int .i64 0) 1 8 Try.underlying27 hi hz0 hz1 hz2 rfl (by decide) _ _ _ rfl (HO.out.alloc _) ⟨wr.heap.size, 0, none⟩ 1 1 [.int .i64 (wrap64 (x - leastB xs))] rfl rfl ?c1 ?c2 ?c3 ?c4 ?c5 ?_)
          case c1 => exact one_cellI _ _ (by simp) _ _
          case c2 => simp [Value.oneCell']
          case c3 => unfold maxLen; omega
          case c4 => omega
          case c5 => simp; omega
          intro v' w1 hown' hgrow _
          have HO2 := Lib.hid hown'
          clear hown'
          go_wp2
          refine ⟨⟨k + 1, by omega, by go_num, ?_, (hb.alloc hb.size _).grown hgrow (by simp; omega) (fun q hq => (HO.out.lt q hq).1)⟩, by simp [intOf]; omega⟩
          have h3 := HO2.out
          rw [HMT.out]
          simpa [intCells] using h3
        · have HO3 := HO.out
          rw [show k = xs.length by omega, List.take_of_length_le (by rw [liftB_len]; exact Nat.le_refl _)] at HO3
          obtain ⟨Ar, cr, rfl⟩ : ∃ Ar cr, u6 = .slice Ar xs.length cr := by
            rcases HO3.2 with ⟨h1, h2⟩ | ⟨g, cap, cur, h1, _⟩
            · exact ⟨none, 0, by rw [h1, h2]⟩
            · exact ⟨_, _, h1⟩
          have HF := Lib.hid (OwnI.of_own HO3)
          have HLM := Lib.hid (liftB_len xs)
          clear HO3
          go_wp2
          go_ret
          exact ⟨Ar, cr, by rw [HLM.out]; rfl, HF.out, hb⟩
end Go.Proofs.Ytcfhkaefjhcglaa
