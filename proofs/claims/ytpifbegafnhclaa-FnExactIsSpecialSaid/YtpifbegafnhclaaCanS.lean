/- CanonicalOf: the specification's appended numbers and the program's filled slice are one plain list. -/
import Derived.Test.YtpifbegafnhclaaC8
namespace Go.Proofs.Ytpifbegafnhclaa
open Go.RowKit

def canL (M : Nat) (es : List (Int × Int)) : List Int := (List.range M).map fun v : Nat => valB (M : Int) es (v : Int) - 2
noncomputable def canB (N : Int) (es : List (Int × Int)) : List Int := if graphB N es = true then canL N.toNat es else []
theorem canB_f {N : Int} {es : List (Int × Int)} (h : graphB N es = false) : canB N es = [] := by rw [canB, if_neg (by rw [h]; decide)]
theorem canB_t {M : Nat} {es : List (Int × Int)} (h : graphB (M : Int) es = true) : canB (M : Int) es = canL M es := by rw [canB, if_pos h, Int.toNat_natCast]
theorem canL_len (M : Nat) (es : List (Int × Int)) : (canL M es).length = M := by simp [canL]
theorem canL_at {M : Nat} {es : List (Int × Int)} {k : Nat} (h : k < M) : (canL M es)[k]? = some (valB (M : Int) es (k : Int) - 2) := by simp [canL, h]
theorem val_lim (N : Int) {es : List (Int × Int)} (hn : es.length ≤ 12) (v : Int) : 0 ≤ valB N es v ∧ valB N es v ≤ 12 := by
  unfold valB
  split
  · have := List.length_filter_le (touch v) es
    omega
  · omega
theorem graph_limsB {N : Int} {es : List (Int × Int)} (h : graphB N es = true) : ∃ M : Nat, N = (M : Int) ∧ 0 < M ∧ M ≤ 6 ∧ es.length ≤ 12 := by
  obtain ⟨h4, h5⟩ := graphB_all h
  obtain ⟨h6, h7, h8⟩ := edgesB_lims h4
  obtain ⟨M, rfl⟩ : ∃ M : Nat, N = (M : Int) := ⟨N.toNat, by omega⟩
  exact ⟨M, rfl, by omega, by omega, h8⟩
theorem canB_len (N : Int) (es : List (Int × Int)) : (canB N es).length ≤ 6 := by
  cases h : graphB N es with
  | false => rw [canB_f h]; simp
  | true =>
    obtain ⟨M, rfl, h0, h6, -⟩ := graph_limsB h
    rw [canB_t h, canL_len]
    exact h6
set_option maxRecDepth 100000 in
set_option maxHeartbeats 2000000 in
theorem specCan (N : Int) (A : Option Addr) (c : Nat) (es : List (Int × Int)) (w : World) (hn : es.length ≤ 1048576) (hw : ∀ e ∈ es, (Lit.int .i64 e.1).wf = true ∧ (Lit.int .i64 e.2).wf = true) (lo : -9223372036854775808 ≤ N) (hi : N ≤ 9223372036854775807) (hE : EdgeS w w.heap.size A es) :
    Calls Try.prog 7 #[.agg #[.int .i64 N, .slice A es.length c]] w (GivesInts w (canB N es)) := by
  obtain ⟨i0, hi', hz0, hz1, hz2⟩ := info_parts intInfo
  have HE := Lib.hid hE
  have G0 := GB.start w N A c es
  have HD := fun w h1 => Lib.hid (specGraphOk N A c es w (by omega) h1)
  cases h1 : graphB N es with
  | false =>
    rw [h1] at HD
    rw [canB_f h1]
    clear h1 hw hE
    go_enter Try.func7, Try.ntmps7
    go_wp2_with fail
    refine (HD _ (HE.out.up_ G0.old)).out.mono ?_
    rintro e w1 ⟨rfl, hb1⟩
    have G1 := Lib.hid (G0.next hb1)
    clear G0 hb1
    go_wp2
    go_ret
    exact ⟨none, 0, rfl, OwnI.nil _ _ _, G1.out.old⟩
  | true =>
    rw [h1] at HD
    obtain ⟨M, rfl, hM0, hM6, hn12⟩ := graph_limsB h1
    rw [canB_t h1]
    have HV := Lib.hid (fun (v : Nat) (W : World) (hv : v < M) (h : EdgeS W W.heap.size A es) => specValL (M : Int) A c es (v : Int) W hn hw lo hi (by omega) (by omega) h)
    have HL := fun v : Nat => Lib.hid (val_lim (M : Int) hn12 (v : Int))
    have HT := Lib.hid (fun (k : Nat) (hk : k < M) => take_snocI (canL_at (M := M) (es := es) hk))
    have HC0 := Lib.hid (show (canL M es).take 0 = [] from rfl)
    have HCM := Lib.hid (show (canL M es).take M = canL M es from List.take_of_length_le (by rw [canL_len]; exact Nat.le_refl _))
    have HCL := Lib.hid (canL_len M es)
    obtain ⟨F, hF⟩ : ∃ F, F = canL M es := ⟨_, rfl⟩
    rw [← hF] at HT HC0 HCM HCL ⊢
    obtain ⟨V, hV⟩ : ∃ V : Nat → Int, V = fun v : Nat => valB (M : Int) es (v : Int) := ⟨_, rfl⟩
    have HVV := Lib.hid (fun v : Nat => (show valB (M : Int) es (v : Int) = V v by rw [hV]))
    clear h1 hF hV hw hE hn hM0 hn12
    go_enter Try.func7, Try.ntmps7
    go_wp2_with fail
    refine (HD _ (HE.out.up_ G0.old)).out.mono ?_
    rintro e w1 ⟨rfl, hb1⟩
    have G1 := Lib.hid (G0.next hb1)
    clear G0 hb1
    go_wp2
    go_loopw [3, 4] (fun v i wr => ∃ k : Nat, k ≤ M ∧ i = .int .i64 k ∧ GB w wr (M : Int) A c es ∧ wr.ownsRow (w.heap.size + 1) 3 1 v k (intCells (F.take k))) (fun _ i _ => M - (intOf i).toNat)
    case atStart =>
      refine ⟨0, Nat.zero_le _, rfl, G1.out.next ((Below.refl _ _).alloc (Nat.le_refl _) _), ?_⟩
      rw [HC0.out]
      exact ownsRow_mono (own_emptyF w1 _ (Nat.le_refl _) _) G1.out.lt
    case round =>
      clear G1
      obtain ⟨k, hk, rfl, hg, hown⟩ := hrel
      have G2 := Lib.hid hg
      have HO := Lib.hid hown
      have c0 := G2.out.c0
      have c1 := G2.out.c1
      clear hg hown
      have hki : (0 : Int) ≤ (k : Int) := Int.natCast_nonneg _
      by_cases hlt : k < M
      · have hlt1 : (k : Int) < (M : Int) := by omega
        have HV2 := Lib.hid (HV.out k wr hlt (HE.out.up_ G2.out.old))
        go_wp2_with fail
        refine HV2.out.mono ?_
        rintro e w2 ⟨rfl, hb2⟩
        rw [HVV.out k]
        have G3 := Lib.hid (G2.out.next hb2)
        have HO2 := Lib.hid (World.ownsRow.kept (row := none) HO.out ⟨hb2.os, hb2.tape, hb2.output, hb2.size, fun i hi _ => hb2.block i hi⟩ (Classical.em _))
        have hl := (HL k).out
        rw [HVV.out k] at hl
        obtain ⟨hl1, hl2⟩ := hl
        obtain ⟨x, hx⟩ : ∃ x : Int, x = V k - 2 := ⟨_, rfl⟩
        have hxw : IntKind.i64.wrap (V k - 2) = x := by rw [hx, IntKind.wrap_i64]; omega
        have HT2 := Lib.hid (HT.out k hlt)
        rw [HVV.out k, ← hx] at HT2
        have hq3 := G3.out.lt
        clear hb2 c0 c1 hl1 hl2 hx
        go_wp2_with (at_builtin; refine wpList_append_own _ rfl _ _ 26 rfl (w.heap.size + 1) 3 i0 (.int .i64 0) 1 8 Try.underlying26 hi' hz0 hz1 hz2 rfl (by decide) _ _ _ rfl (HO2.out.alloc _) ⟨w2.heap.size, 0, none⟩ 1 1 [.int .i64 x] rfl rfl ?c1 ?c2 ?c3 ?c4 ?c5 ?_)
        case c1 => exact one_cellI _ _ (by simp) _ _
        case c2 => simp [Value.oneCell']
        case c3 => unfold maxLen; omega
        case c4 => omega
        case c5 => simp; omega
        intro v' w3 hown3 hgrow3 _
        have HO3 := Lib.hid hown3
        have hba : Below w2.heap.size w2 (w2.alloc (.cells #[.int .i64 x] 3)) := (Below.refl _ _).alloc (Nat.le_refl _) _
        have G4 := Lib.hid (G3.out.next hba)
        have G5 := Lib.hid (show GB w w3 (M : Int) A c es from ⟨G4.out.box.grown hgrow3 (fun h => by have := (HO2.out.lt _ h).1; omega), G4.out.old.grown hgrow3 G4.out.old.size (fun q hq => by have := (HO2.out.lt q hq).1; omega)⟩)
        clear hown3 hgrow3 hba
        go_wp2
        refine ⟨⟨k + 1, by omega, by go_num, G5.out, ?_⟩, by simp [intOf]; omega⟩
        have h3 := HO3.out
        rw [HT2.out]
        simpa [intCells] using h3
      · have HO3 := HO.out
        obtain rfl : k = M := by omega
        rw [HCM.out] at HO3
        obtain ⟨Ar, cr, rfl⟩ : ∃ Ar cr, u3 = .slice Ar k cr := by
          rcases HO3.2 with ⟨h1, h2⟩ | ⟨g, cap, cur, h1, _⟩
          · exact ⟨none, 0, by rw [h1, h2]⟩
          · exact ⟨_, _, h1⟩
        have HF := Lib.hid (OwnI.of_own HO3)
        clear HO3
        go_wp2
        go_ret
        exact ⟨Ar, cr, by rw [HCL.out]; rfl, HF.out.mono (by omega), G2.out.old⟩
set_option maxRecDepth 100000 in
set_option maxHeartbeats 2000000 in
theorem implCan (N : Int) (A : Option Addr) (c : Nat) (es : List (Int × Int)) (w : World) (hn : es.length ≤ 1048576) (hw : ∀ e ∈ es, (Lit.int .i64 e.1).wf = true ∧ (Lit.int .i64 e.2).wf = true) (lo : -9223372036854775808 ≤ N) (hi : N ≤ 9223372036854775807) (hE : EdgeS w w.heap.size A es) :
    Calls Try.prog 9 #[.agg #[.int .i64 N, .slice A es.length c]] w (GivesInts w (canB N es)) := by
  have HE := Lib.hid hE
  have G0 := GB.start w N A c es
  have HD := fun w h1 => Lib.hid (implGraphOk N A c es w hn h1)
  cases h1 : graphB N es with
  | false =>
    rw [h1] at HD
    rw [canB_f h1]
    clear h1 hw hE
    go_enter Try.func9, Try.ntmps9
    go_wp2_with fail
    refine (HD _ (HE.out.up_ G0.old)).out.mono ?_
    rintro e w1 ⟨rfl, hb1⟩
    have G1 := Lib.hid (G0.next hb1)
    clear G0 hb1
    go_wp2
    go_ret
    exact ⟨none, 0, rfl, OwnI.nil _ _ _, G1.out.old⟩
  | true =>
    rw [h1] at HD
    obtain ⟨M, rfl, hM0, hM6, hn12⟩ := graph_limsB h1
    rw [canB_t h1]
    have HV := Lib.hid (fun (v : Nat) (W : World) (hv : v < M) (h : EdgeS W W.heap.size A es) => implValL (M : Int) A c es (v : Int) W hn hw lo hi (by omega) (by omega) h)
    have HL := fun v : Nat => Lib.hid (val_lim (M : Int) hn12 (v : Int))
    have HCL := Lib.hid (canL_len M es)
    have HX := Lib.hid (fun (k : Nat) (hk : k < M) => canL_at (M := M) (es := es) hk)
    obtain ⟨F, hF⟩ : ∃ F, F = canL M es := ⟨_, rfl⟩
    rw [← hF] at HX HCL ⊢
    obtain ⟨V, hV⟩ : ∃ V : Nat → Int, V = fun v : Nat => valB (M : Int) es (v : Int) := ⟨_, rfl⟩
    have HVV := Lib.hid (fun v : Nat => (show valB (M : Int) es (v : Int) = V v by rw [hV]))
    have hmk := make_ints M (by omega)
    clear h1 hF hV hw hE hn hM0 hn12
    go_enter Try.func9, Try.ntmps9
    go_wp2_with fail
    refine (HD _ (HE.out.up_ G0.old)).out.mono ?_
    rintro e w1 ⟨rfl, hb1⟩
    have G1 := Lib.hid (G0.next hb1)
    have c0 := G1.out.c0
    have c1 := G1.out.c1
    clear G0 hb1
    go_wp2
    go_loopw [13] (fun i wr => ∃ k : Nat, k ≤ M ∧ i = .int .i64 k ∧ GB w wr (M : Int) A c es ∧ Blk wr w1.heap.size 3 (intCells (partI F k)).toArray) (fun i _ => M - (intOf i).toNat)
    case atStart =>
      refine ⟨0, Nat.zero_le _, rfl, G1.out.next ((Below.refl _ _).alloc (Nat.le_refl _) _), ?_⟩
      rw [partI_len0, HCL.out]
      exact Blk.new w1 _ _
    case round =>
      have hw1 := G1.out.lt
      clear G1 hmk c0 c1
      obtain ⟨k, hk, rfl, hg, hblk⟩ := hrel
      have G2 := Lib.hid hg
      have HB := Lib.hid hblk
      have c0 := G2.out.c0
      have c1 := G2.out.c1
      clear hg hblk
      have hki : (0 : Int) ≤ (k : Int) := Int.natCast_nonneg _
      by_cases hlt : k < M
      · have hlt1 : (k : Int) < (M : Int) := by omega
        have HV2 := Lib.hid (HV.out k wr hlt (HE.out.up_ G2.out.old))
        go_wp2_with fail
        refine HV2.out.mono ?_
        rintro e w2 ⟨rfl, hb2⟩
        rw [HVV.out k]
        have G3 := Lib.hid (G2.out.next hb2)
        have HB2 := Lib.hid (HB.out.below hb2 HB.out.lt)
        have hl := (HL k).out
        rw [HVV.out k] at hl
        obtain ⟨hl1, hl2⟩ := hl
        obtain ⟨x, hx⟩ : ∃ x : Int, x = V k - 2 := ⟨_, rfl⟩
        have hxw : IntKind.i64.wrap (V k - 2) = x := by rw [hx, IntKind.wrap_i64]; omega
        have HX2 := Lib.hid (HX.out k hlt)
        rw [HVV.out k, ← hx] at HX2
        have hf0 := HB2.out.frozen k
        have hcl0 : w2.cell? ⟨w1.heap.size, k, none⟩ = some (.int .i64 0) := by rw [HB2.out.cell]; simp [intCells, partI_at F k (by rw [HCL.out]; exact hlt)]
        clear hb2 c0 c1 hl1 hl2 hx
        go_wp2
        exact ⟨⟨k + 1, by omega, by go_num, ⟨G3.out.box.far (by simp only; omega) _, G3.out.old.setCell (by simp only; omega) _⟩, blk_partI HB2.out HX2.out⟩, by simp [intOf]; omega⟩
      · have HB2 := HB.out
        rw [show k = F.length by rw [HCL.out]; omega, partI_all] at HB2
        have HB3 := Lib.hid HB2
        clear HB2
        go_wp2
        go_ret
        exact ⟨some ⟨w1.heap.size, 0, none⟩, M, by rw [HCL.out]; rfl, OwnI.of_blk HB3.out (by omega), G2.out.old⟩
end Go.Proofs.Ytpifbegafnhclaa
