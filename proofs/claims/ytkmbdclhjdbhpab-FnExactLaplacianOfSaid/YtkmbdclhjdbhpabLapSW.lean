/- The walk of the specification's LaplacianOf. -/
import Derived.Test.YtkmbdclhjdbhpabLapS
import Derived.Test.YtkmbdclhjdbhpabOwnSS
import Derived.Test.YtkmbdclhjdbhpabWalkL
namespace Go.Proofs.Ytkmbdclhjdbhpab
open Go.RowKit

/-- rows, new memory, are handed back to be read -/
theorem ownsRow_mono {w : World} {base base' e s n : Nat} {v : Value} {xs : List Value} (h : w.ownsRow base e s v n xs) (hb : base' ≤ base) : w.ownsRow base' e s v n xs := by
  obtain ⟨h1, h2⟩ := h
  refine ⟨h1, ?_⟩
  rcases h2 with h2 | ⟨g, cap, cur, e1, h3, h4⟩
  · exact .inl h2
  · exact .inr ⟨g, cap, cur, e1, by omega, h4⟩
theorem own_empty (w : World) (base : Nat) (hb : base ≤ w.heap.size) (t : TypeId) : (w.alloc (.cells #[] t)).ownsRow base t 1 (.slice (some ⟨w.heap.size, 0, none⟩) 0 0) 0 [] :=
  ⟨rfl, .inr ⟨w.heap.size, 0, #[], rfl, hb, heap_alloc_new w _, Nat.le_refl _, Nat.zero_le _, rfl, rfl⟩⟩
theorem multB_bound (N : Int) (es : List (Int × Int)) (a b : Int) : 0 ≤ multB N es a b ∧ multB N es a b ≤ es.length := by
  unfold multB
  split
  · have : es.count (min a b, max a b) ≤ es.length := List.count_le_length
    omega
  · omega
theorem lapR_take {M : Nat} (es : List (Int × Int)) (a : Nat) {b : Nat} (h : b < M) : (lapR M es a).take (b + 1) = (lapR M es a).take b ++ [lapE M es a b] := by
  rw [List.take_add_one, lapR_at es a h]
  rfl
theorem lapM_take {M : Nat} (es : List (Int × Int)) {a : Nat} (h : a < M) : (lapM M es).take (a + 1) = (lapM M es).take a ++ [lapR M es a] := by
  rw [List.take_add_one, lapM_at es h]
  rfl
theorem lapE_eq (M : Nat) (es : List (Int × Int)) (a : Nat) : lapE M es a a = valB M es a := by rw [lapE, if_pos rfl]
theorem lapE_ne (M : Nat) (es : List (Int × Int)) {a b : Nat} (h : a ≠ b) : lapE M es a b = - multB M es a b := by rw [lapE, if_neg h]
theorem rowsInfo : (Try.prog.info? 23).map (fun i => (i.zero, i.size, i.bytes)) = some (some (.slice none 0 0), 1, 24) := by kernel_rfl

set_option maxRecDepth 100000 in
set_option maxHeartbeats 4000000 in
theorem specLap_yes (M : Nat) (A : Option Addr) (c : Nat) (es : List (Int × Int)) (w : World) (hB : graphB M es = true) (hE : EdgeS w w.heap.size A es) :
    Calls Try.prog 25 #[.agg #[.int .i64 (M : Int), .slice A es.length c]] w (GivesRows w (lapM M es)) := by
  obtain ⟨i0, hi, hz0, hz1, hz2⟩ := info_parts intInfo
  obtain ⟨i1, hj, hy0, hy1, hy2⟩ := info_parts rowsInfo
  obtain ⟨hEB, _⟩ := graphB_all hB
  obtain ⟨hN1, hN6, hn12⟩ := edgesB_lims hEB
  have HWF := Lib.hid (edge_wf hEB)
  have HE := Lib.hid hE
  clear hE hEB
  have hb0 : Below w.heap.size w (w.alloc (Obj.cells #[.int .i64 (M : Int), .slice A es.length c] 39)) := (Below.refl _ _).alloc (Nat.le_refl _) _
  go_enter Try.func25, Try.ntmps25
  go_wp2_with fail
  refine (specGraphOk _ _ _ _ _ (by omega) (HE.out.up_ hb0)).mono ?_
  rintro e w1 ⟨rfl, hb1⟩
  have hbb : Below w.heap.size w w1 := hb0.trans (hb1.mono hb0.size)
  have hx1 := (Blk.new w 39 #[.int .i64 (M : Int), .slice A es.length c]).below hb1 (by simp)
  have hlx := hx1.lt
  have HX1 := Lib.hid hx1
  clear hb0 hb1 hx1
  go_wp2_with fail
  go_loopw [3, 4] (fun s i wr => ∃ a : Nat, a ≤ M ∧ i = .int .i64 a ∧ SSOwn wr (w.heap.size + 1) s ((lapM M es).take a) ∧ Blk wr w.heap.size 39 #[.int .i64 (M : Int), .slice A es.length c] ∧ Below w.heap.size w wr) (fun _ i _ => M - (intOf i).toNat)
  case atStart => exact ⟨0, Nat.zero_le _, rfl, ⟨[], own_empty w1 _ (by omega) _, fun i r h => by simp at h⟩, HX1.out.alloc _, hbb.alloc hbb.size _⟩
  case round =>
    obtain ⟨a, ha, rfl, hss, hbx, hb⟩ := hrel
    have HS := Lib.hid hss
    have HBX := Lib.hid hbx
    have hlb := hbx.lt
    have g0 : wr.cell? ⟨w.heap.size, 0, none⟩ = some (.int .i64 (M : Int)) := by rw [hbx.cell]; rfl
    have g1 : wr.cell? ⟨w.heap.size, 1, none⟩ = some (.slice A es.length c) := by rw [hbx.cell]; rfl
    clear hss hbx
    by_cases hlt : a < M
    · have ha0 : (0 : Int) ≤ (a : Int) := Int.natCast_nonneg _
      have ha1 : (a : Int) < (M : Int) := by omega
      obtain ⟨wo, rfl⟩ : ∃ wo : World, wo = wr := ⟨_, rfl⟩
      go_wp2
      go_loopw [5, 6] (fun s i wr => ∃ b : Nat, b ≤ M ∧ i = .int .i64 b ∧ QOwn wr wo.heap.size s ((lapR M es a).take b) ∧ Below wo.heap.size wo wr) (fun _ i _ => M - (intOf i).toNat)
      case atStart => exact ⟨0, Nat.zero_le _, rfl, own_empty wo _ (Nat.le_refl _) _, (Below.refl _ _).alloc (Nat.le_refl _) _⟩
      case round =>
        obtain ⟨b, hb', rfl, hq, hb2⟩ := hrel
        have HQ := Lib.hid hq
        have hB2 : Below w.heap.size w wr := hb.trans (hb2.mono hb.size)
        have hx2 := HBX.out.below hb2 hlb
        have k0 : wr.cell? ⟨w.heap.size, 0, none⟩ = some (.int .i64 (M : Int)) := by rw [hx2.cell]; rfl
        have k1 : wr.cell? ⟨w.heap.size, 1, none⟩ = some (.slice A es.length c) := by rw [hx2.cell]; rfl
        have hs2 := hb2.size
        have hbl : ((lapR M es a).take b).length = b := by rw [List.length_take, lapR_len]; omega
        clear hq hx2 g0 g1
        by_cases hlt2 : b < M
        · have hb0' : (0 : Int) ≤ (b : Int) := Int.natCast_nonneg _
          have hb1' : (b : Int) < (M : Int) := by omega
          by_cases hab : a = b
          · subst hab
            go_wp2_with fail
            refine (specValL _ _ _ _ _ _ (by omega) HWF.out (by omega) (by omega) (by omega) (by omega) (HE.out.up_ hB2)).mono ?_
            rintro e w3 ⟨rfl, hb3⟩
            have HQ3 := Lib.hid (HQ.out.below hb3)
            have hs3 := hb3.size
            go_wp2_with (at_builtin; refine wpList_append_own _ rfl _ _ 23 rfl wo.heap.size 3 i0 (.int .i64 0) 1 8 Try.underlying23 hi hz0 hz1 hz2 rfl (by decide) _ _ _ rfl (World.ownsRow.alloc HQ3.out _) ⟨w3.heap.size, 0, none⟩ 1 1 [.int .i64 (valB (M : Int) es (a : Int))] rfl rfl ?c1 ?c2 ?c3 ?c4 ?c5 ?_)
            case c1 => exact one_cell _ _ (by simp) _ _
            case c2 => simp [Value.oneCell']
            case c3 => unfold maxLen; omega
            case c4 => omega
            case c5 => simp; omega
            intro v' w4 hown' hgrow _
            have HQ4 : Hid (QOwn w4 wo.heap.size v' ((lapR M es a).take (a + 1))) := Lib.hid (by
              rw [lapR_take es a hlt2, lapE_eq]
              unfold QOwn
              rw [← cells_snoc, List.length_append, hbl]
              exact hown')
            have hb4 : Below wo.heap.size wo w4 := ((hb2.trans (hb3.mono hs2)).alloc (by omega) (Obj.cells #[.int .i64 (valB (M : Int) es (a : Int))] 3)).grown hgrow (by simp; omega) (fun q hq => (World.ownsRow.lt HQ3.out q hq).1)
            clear hown' hgrow
            go_wp2
            exact ⟨⟨a + 1, by omega, by go_num, HQ4.out, hb4⟩, by simp [intOf]; omega⟩
          · have tab : ((a : Int) == (b : Int)) = false := by simp; omega
            go_wp2_with fail
            refine (specMultU _ _ _ _ _ _ _ (by omega) (HE.out.up_ hB2)).mono ?_
            rintro e w3 ⟨rfl, hb3⟩
            have HQ3 := Lib.hid (HQ.out.below hb3)
            have hs3 := hb3.size
            obtain ⟨mb0, mb1⟩ := multB_bound (M : Int) es (a : Int) (b : Int)
            have hw : IntKind.i64.wrap (-(multB (M : Int) es (a : Int) (b : Int))) = -(multB (M : Int) es (a : Int) (b : Int)) := by rw [IntKind.wrap_i64]; omega
            go_wp2_with (at_builtin; refine wpList_append_own _ rfl _ _ 23 rfl wo.heap.size 3 i0 (.int .i64 0) 1 8 Try.underlying23 hi hz0 hz1 hz2 rfl (by decide) _ _ _ rfl (World.ownsRow.alloc HQ3.out _) ⟨w3.heap.size, 0, none⟩ 1 1 [.int .i64 (-(multB (M : Int) es (a : Int) (b : Int)))] rfl rfl ?c1 ?c2 ?c3 ?c4 ?c5 ?_)
            case c1 => exact one_cell _ _ (by simp) _ _
            case c2 => simp [Value.oneCell']
            case c3 => unfold maxLen; omega
            case c4 => omega
            case c5 => simp; omega
            intro v' w4 hown' hgrow _
            have HQ4 : Hid (QOwn w4 wo.heap.size v' ((lapR M es a).take (b + 1))) := Lib.hid (by
              rw [lapR_take es a hlt2, lapE_ne M es hab]
              unfold QOwn
              rw [← cells_snoc, List.length_append, hbl]
              exact hown')
            have hb4 : Below wo.heap.size wo w4 := ((hb2.trans (hb3.mono hs2)).alloc (by omega) (Obj.cells #[.int .i64 (-(multB (M : Int) es (a : Int) (b : Int)))] 3)).grown hgrow (by simp; omega) (fun q hq => (World.ownsRow.lt HQ3.out q hq).1)
            clear hown' hgrow
            go_wp2
            exact ⟨⟨b + 1, by omega, by go_num, HQ4.out, hb4⟩, by simp [intOf]; omega⟩
        · have hbM : b = M := by omega
          have hq2 := HQ.out
          rw [List.take_of_length_le (by rw [lapR_len]; omega)] at hq2
          obtain ⟨Ap, cp, hu⟩ := hq2.slice
          rw [lapR_len] at hu
          subst hu
          have hss2 := (HS.out.kept hb2).kept ((Below.refl wr.heap.size wr).alloc (Nat.le_refl _) (Obj.cells #[.slice Ap M cp] 23))
          obtain ⟨vs, hv1, hv2⟩ := hss2
          have hqA := QOwn.alloc hq2 (Obj.cells #[.slice Ap M cp] 23)
          have hal : ((lapM M es).take a).length = a := by rw [List.length_take, lapM_len]; omega
          have HV := Lib.hid hv1
          have HV2 := Lib.hid hv2
          have HQA : Hid (QOwn (wr.alloc (Obj.cells #[.slice Ap M cp] 23)) (w.heap.size + 1) (.slice Ap M cp) (lapR M es a)) := Lib.hid (ownsRow_mono hqA (by omega))
          clear hq2 hv1 hv2 hqA
          go_wp2_with (at_builtin; refine wpList_append_own _ rfl _ _ 22 rfl (w.heap.size + 1) 23 i1 (.slice none 0 0) 1 24 Try.underlying22 hj hy0 hy1 hy2 rfl (by decide) _ _ _ rfl HV.out ⟨wr.heap.size, 0, none⟩ 1 1 [.slice Ap M cp] rfl rfl ?c1 ?c2 ?c3 ?c4 ?c5 ?_)
          case c1 => exact one_cell _ _ (by simp) _ _
          case c2 => simp [Value.oneCell']
          case c3 => unfold maxLen; omega
          case c4 => omega
          case c5 => simp; omega
          intro v' w4 hown' hgrow _
          have HS4 : Hid (SSOwn w4 (w.heap.size + 1) v' ((lapM M es).take (a + 1))) := Lib.hid (by
            rw [lapM_take es hlt]
            exact SSOwn.push HV.out HV2.out HQA.out (by rw [hal]; exact hown') hgrow)
          have hbx4 := ((HBX.out.below hb2 hlb).alloc (Obj.cells #[.slice Ap M cp] 23)).grown hgrow (fun h => by have := (World.ownsRow.lt HV.out _ h).1; omega)
          have hb4 : Below w.heap.size w w4 := (hB2.alloc hB2.size (Obj.cells #[.slice Ap M cp] 23)).grown hgrow (by simp; have := hB2.size; omega) (fun q hq => by have := (World.ownsRow.lt HV.out q hq).1; omega)
          have HBX4 := Lib.hid hbx4
          clear hown' hgrow hbx4
          go_wp2
          exact ⟨⟨a + 1, by omega, by go_num, HS4.out, HBX4.out, hb4⟩, by simp [intOf]; omega⟩
    · obtain ⟨Ar, cr, hu, hr⟩ := HS.out.rows
      rw [List.take_of_length_le (by rw [lapM_len]; omega)] at hu hr
      subst hu
      have HRW := Lib.hid hr
      clear hr
      go_wp2
      go_ret
      exact ⟨Ar, cr, rfl, HRW.out, hb⟩
end Go.Proofs.Ytkmbdclhjdbhpab
