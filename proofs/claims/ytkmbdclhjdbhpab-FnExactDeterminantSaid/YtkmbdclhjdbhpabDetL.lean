/- The specification's Determinant. -/
import Derived.Test.YtkmbdclhjdbhpabDetS
namespace Go.Proofs.Ytkmbdclhjdbhpab
open Go.RowKit

def GivesIntsC (w : World) (zs : List Int) (e : Ending) (w' : World) : Prop :=
  ∃ (A : Option Addr) (c : Nat), e = .returned (.slice A zs.length c) ∧ zs.length ≤ c ∧ IntS w' w'.heap.size A zs ∧ Below w.heap.size w w'
set_option maxHeartbeats 1000000 in
theorem l03All_any (n : Nat) (w : World) (hn : n ≤ 6) :
    Calls Try.prog 73 #[.int .i64 (n : Int)] w (GivesIntsC w (natI (List.range n))) := by
  obtain ⟨i0, hi, hz0, hz1, hz2⟩ := info_parts intInfo
  have HL := Lib.hid (show (natI (List.range n)).length = n by simp [natI])
  go_enter Try.func73, Try.ntmps73
  go_wp2
  go_loopw [3, 4] (fun v i wr => ∃ k : Nat, k ≤ n ∧ i = .int .i64 k ∧ wr.ownsRow w.heap.size 3 1 v k (intCells ((natI (List.range n)).take k)) ∧ Below w.heap.size w wr) (fun _ i _ => n - (intOf i).toNat)
  case atStart => exact ⟨0, Nat.zero_le _, rfl, own_emptyD w w.heap.size (Nat.le_refl _) _, (Below.refl _ _).alloc (Nat.le_refl _) _⟩
  case round =>
    obtain ⟨k, hk, rfl, hown, hb⟩ := hrel
    have HO := Lib.hid hown
    have hbn := hb.size
    clear hown
    by_cases hlt : k < n
    · have hi0 : (0 : Int) ≤ (k : Int) := Int.natCast_nonneg _
      have hi1 : (k : Int) < (n : Int) := by omega
      have hat : (natI (List.range n))[k]? = some (k : Int) := natI_at (by simp [hlt])
      have HMT := Lib.hid (show (natI (List.range n)).take (k + 1) = (natI (List.range n)).take k ++ [(k : Int)] by rw [List.take_add_one, hat]; rfl)
      clear hat
      go_wp2_with (at_builtin; refine wpList_append_own _ rfl _ _ 23 rfl w.heap.size 3 i0 (.int .i64 0) 1 8 Try.underlying23 hi hz0 hz1 hz2 rfl (by decide) _ _ _ rfl (HO.out.alloc _) ⟨wr.heap.size, 0, none⟩ 1 1 [.int .i64 (k : Int)] rfl rfl ?c1 ?c2 ?c3 ?c4 ?c5 ?_)
      case c1 => exact one_cellI _ _ (by simp) _ _
      case c2 => simp [Value.oneCell']
      case c3 => unfold maxLen; omega
      case c4 => omega
      case c5 => simp; omega
      intro v' w1 hown' hgrow _
      have HO2 := Lib.hid hown'
      clear hown'
      go_wp2
      refine ⟨⟨k + 1, by omega, by go_num, ?_, (hb.alloc hb.size _).grown hgrow (by simp; omega) (fun q hq => (HO.out.lt q hq).1)⟩, by simp [intOf]; omega⟩
      have h3 := HO2.out
      rw [HMT.out]
      simpa [intCells] using h3
    · have HO3 := HO.out
      rw [List.take_of_length_le (by rw [HL.out]; omega)] at HO3
      obtain ⟨Ar, cr, rfl, hcr, hir⟩ := own_form HO3
      have HI := Lib.hid hir
      clear HO3 hir
      go_wp2
      go_ret
      exact ⟨Ar, cr, rfl, hcr, HI.out, hb⟩
theorem pick_all (rs : List (List Int)) : pick rs (List.range rs.length) = rs.map rowF := by
  apply List.ext_getElem?
  intro i
  simp only [pick, List.getElem?_map]
  by_cases h : i < rs.length
  · simp [List.getD, h]
  · rw [List.getElem?_eq_none (by simp; omega), List.getElem?_eq_none (by omega)]
    rfl
set_option maxHeartbeats 1000000 in
theorem specDet (A : Option Addr) (c : Nat) (rs : List (List Int)) (w : World) (hn : rs.length ≤ 1048576) (hl : ∀ r ∈ rs, r.length ≤ 1048576) (hS : IntSS w w.heap.size A rs) :
    Calls Try.prog 35 #[.slice A rs.length c] w fun e w' => e = .returned (.int .i64 (detB rs)) ∧ Below w.heap.size w w' := by
  have HM := Lib.hid (specMatrixOk A c rs w (by omega) (fun r hr => by have := hl r hr; omega) hS)
  have HS := Lib.hid hS
  clear hS hl
  cases hB : matB rs with
  | false =>
    rw [hB] at HM
    rw [detB_f hB]
    clear hB
    go_enter Try.func35, Try.ntmps35
    go_wp2_with fail
    refine HM.out.mono ?_
    rintro e w' ⟨rfl, rfl⟩
    go_wp2
    go_ret
    exact ⟨rfl, Below.refl _ _⟩
  | true =>
    rw [hB] at HM
    rw [detB_t hB, ← pick_all]
    obtain ⟨h6, hent⟩ := matB_entries hB
    have HD := fun B D ca cb cd w h1 h2 h3 h4 h5 => Lib.hid (l03Det_any rs hent rs.length (List.range rs.length) (List.range rs.length) (by simp) h6 (by simpa using h6) (fun i hi => List.mem_range.1 hi) (fun i hi => List.mem_range.1 hi) A B D ca cb cd w h1 h2 h3 h4 h5)
    have HA := fun w => Lib.hid (l03All_any rs.length w h6)
    have HRL := Lib.hid (show (natI (List.range rs.length)).length = (List.range rs.length).length by simp [natI])
    clear hB hent
    go_enter Try.func35, Try.ntmps35
    go_wp2_with fail
    refine HM.out.mono ?_
    rintro e w' ⟨rfl, rfl⟩
    go_wp2_with fail
    refine (HA _).out.mono ?_
    rintro e w1 ⟨A1, c1, rfl, hc1, hi1, hb1⟩
    have HI1 := Lib.hid hi1
    clear hi1
    go_wp2_with fail
    refine (HA _).out.mono ?_
    rintro e w2 ⟨A2, c2, rfl, hc2, hi2, hb2⟩
    have HI2 := Lib.hid hi2
    have hbb := hb1.trans (hb2.mono hb1.size)
    have HI3 := Lib.hid (HI1.out.up_ hb2)
    rw [HRL.out] at hc1 hc2
    clear hi2 hb1 hb2 HI1
    go_wp2_with fail
    rw [HRL.out]
    refine (HD _ _ _ _ _ _ hc1 hc2 (HS.out.up_ hbb) HI3.out HI2.out).out.mono ?_
    rintro e w3 ⟨rfl, hb3⟩
    have hbc := hbb.trans (hb3.mono hbb.size)
    go_wp2
    go_ret
    exact ⟨rfl, hbc⟩
end Go.Proofs.Ytkmbdclhjdbhpab
