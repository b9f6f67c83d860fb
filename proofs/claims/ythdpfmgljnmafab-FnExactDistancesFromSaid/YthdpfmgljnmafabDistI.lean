/- The program's DistancesFrom, and both for the law. -/
import Derived.Test.YthdpfmgljnmafabDistS
import Derived.Test.YthdpfmgljnmafabGraphI
namespace Go.Proofs.Ythdpfmgljnmafab
open Go.RowKit

set_option maxHeartbeats 2000000 in
theorem implDist_no (N : Int) (A : Option Addr) (c : Nat) (es : List (Int × Int)) (v : Int) (w : World) (hn : es.length ≤ 1048576) (h : graphB N es = false ∨ (graphB N es = true ∧ vB v N = false)) (hE : EdgeS w w.heap.size A es) :
    Calls Try.prog 21 #[.agg #[.int .i64 N, .slice A es.length c], .int .i64 v] w (GivesInts w []) := by
  have HE := Lib.hid hE
  clear hE
  have hb0 : Below w.heap.size w (w.alloc (Obj.cells #[.int .i64 N, .slice A es.length c] 29)) := (Below.refl _ _).alloc (Nat.le_refl _) _
  rcases h with hB | ⟨hB, hv⟩
  · go_enter Try.func21, Try.ntmps21
    go_wp2_with fail
    refine (implGraphOk _ _ _ _ _ hn (HE.out.up_ hb0)).mono ?_
    rintro e w1 ⟨rfl, hb1⟩
    have hbb : Below w.heap.size w w1 := hb0.trans (hb1.mono hb0.size)
    clear hb0 hb1
    go_wp2
    go_ret
    exact ⟨none, 0, rfl, OwnI.nil _ _ _, hbb⟩
  · go_enter Try.func21, Try.ntmps21
    go_wp2_with fail
    refine (implGraphOk _ _ _ _ _ hn (HE.out.up_ hb0)).mono ?_
    rintro e w1 ⟨rfl, hb1⟩
    have hbb : Below w.heap.size w w1 := hb0.trans (hb1.mono hb0.size)
    have hx1 := (Blk.new w 29 #[.int .i64 N, .slice A es.length c]).below hb1 (by simp)
    have c0 : w1.cell? ⟨w.heap.size, 0, none⟩ = some (.int .i64 N) := by rw [hx1.cell]; rfl
    have c1 : w1.cell? ⟨w.heap.size, 1, none⟩ = some (.slice A es.length c) := by rw [hx1.cell]; rfl
    clear hb0 hb1 hx1
    go_wp2_with fail
    refine (hasVertex_any _ _ _ _ ⟨_, _, _, rfl⟩).mono ?_
    rintro e w2 ⟨rfl, hb2⟩
    have hb3 : Below w.heap.size w w2 := hbb.trans (hb2.mono hbb.size)
    go_wp2
    go_ret
    exact ⟨none, 0, rfl, OwnI.nil _ _ _, hb3⟩
set_option maxHeartbeats 2000000 in
theorem implDist_yes (M v : Nat) (A : Option Addr) (c : Nat) (es : List (Int × Int)) (w : World) (hn : es.length ≤ 1048576) (hB : graphB M es = true) (hv : v < M) (hE : EdgeS w w.heap.size A es) :
    Calls Try.prog 21 #[.agg #[.int .i64 (M : Int), .slice A es.length c], .int .i64 (v : Int)] w (GivesInts w (dists M es v)) := by
  have HE := Lib.hid hE
  have hvb : vB (v : Int) (M : Int) = true := vB_t (by omega)
  have HG := Lib.hid (graphB_all hB)
  clear hE
  have hb0 : Below w.heap.size w (w.alloc (Obj.cells #[.int .i64 (M : Int), .slice A es.length c] 29)) := (Below.refl _ _).alloc (Nat.le_refl _) _
  go_enter Try.func21, Try.ntmps21
  go_wp2_with fail
  refine (implGraphOk _ _ _ _ _ hn (HE.out.up_ hb0)).mono ?_
  rintro e w1 ⟨rfl, hb1⟩
  have hbb : Below w.heap.size w w1 := hb0.trans (hb1.mono hb0.size)
  have hx1 := (Blk.new w 29 #[.int .i64 (M : Int), .slice A es.length c]).below hb1 (by simp)
  have c0 : w1.cell? ⟨w.heap.size, 0, none⟩ = some (.int .i64 (M : Int)) := by rw [hx1.cell]; rfl
  have c1 : w1.cell? ⟨w.heap.size, 1, none⟩ = some (.slice A es.length c) := by rw [hx1.cell]; rfl
  have HX1 := Lib.hid hx1
  clear hb0 hb1 hx1
  go_wp2_with fail
  refine (hasVertex_any _ _ _ _ ⟨_, _, _, rfl⟩).mono ?_
  rintro e w2 ⟨rfl, hb2⟩
  have hb3 : Below w.heap.size w w2 := hbb.trans (hb2.mono hbb.size)
  have hx2 := HX1.out.below hb2 HX1.out.lt
  clear c0 c1
  have c0 : w2.cell? ⟨w.heap.size, 0, none⟩ = some (.int .i64 (M : Int)) := by rw [hx2.cell]; rfl
  have c1 : w2.cell? ⟨w.heap.size, 1, none⟩ = some (.slice A es.length c) := by rw [hx2.cell]; rfl
  clear hx2 hb2 hbb HX1
  go_wp2_with fail
  refine (walkLayers_any M v _ _ _ _ HG.out.1 hv (HE.out.up_ hb3)).mono ?_
  rintro e w3 ⟨g, ds, rfl, hd, hblk, hg, hb4⟩
  have hb5 : Below w.heap.size w w3 := hb3.trans (hb4.mono hb3.size)
  have hde := hd.dists HG.out.2 ⟨by omega, by omega⟩
  rw [hde] at hblk
  have HB := Lib.hid hblk
  have HL := Lib.hid (dists_len M es v)
  have hs := hb3.size
  clear hde hblk hd
  go_wp2
  go_ret
  exact ⟨some ⟨g, 0, none⟩, M, by rw [HL.out]; rfl, OwnI.of_blk HB.out (by omega), hb5⟩

theorem distB_len {N : Int} {es : List (Int × Int)} {v : Int} : (distB N es v).length ≤ 1048576 := by
  unfold distB
  split
  · rename_i h
    have := edgesB_lims (graphB_all h.1).1
    rw [dists_len]
    omega
  · simp
theorem specDist (N : Int) (A : Option Addr) (c : Nat) (es : List (Int × Int)) (v : Int) (w : World) (hn : es.length ≤ 1048576) (hE : EdgeS w w.heap.size A es) :
    Calls Try.prog 20 #[.agg #[.int .i64 N, .slice A es.length c], .int .i64 v] w (GivesInts w (distB N es v)) := by
  cases h : graphB N es with
  | false => rw [distB_f (.inl h)]; exact specDist_no N A c es v w hn (.inl h) hE
  | true =>
    cases h2 : vB v N with
    | false => rw [distB_f (.inr h2)]; exact specDist_no N A c es v w hn (.inr ⟨h, h2⟩) hE
    | true =>
      rw [distB_t h h2]
      obtain ⟨h3, h4⟩ := vB_iff h2
      obtain ⟨M, rfl⟩ : ∃ M : Nat, N = (M : Int) := ⟨N.toNat, by omega⟩
      obtain ⟨u, rfl⟩ : ∃ u : Nat, v = (u : Int) := ⟨v.toNat, by omega⟩
      rw [Int.toNat_natCast]
      exact specDist_yes M u A c es w h (by omega) hE
theorem implDist (N : Int) (A : Option Addr) (c : Nat) (es : List (Int × Int)) (v : Int) (w : World) (hn : es.length ≤ 1048576) (hE : EdgeS w w.heap.size A es) :
    Calls Try.prog 21 #[.agg #[.int .i64 N, .slice A es.length c], .int .i64 v] w (GivesInts w (distB N es v)) := by
  cases h : graphB N es with
  | false => rw [distB_f (.inl h)]; exact implDist_no N A c es v w hn (.inl h) hE
  | true =>
    cases h2 : vB v N with
    | false => rw [distB_f (.inr h2)]; exact implDist_no N A c es v w hn (.inr ⟨h, h2⟩) hE
    | true =>
      rw [distB_t h h2]
      obtain ⟨h3, h4⟩ := vB_iff h2
      obtain ⟨M, rfl⟩ : ∃ M : Nat, N = (M : Int) := ⟨N.toNat, by omega⟩
      obtain ⟨u, rfl⟩ : ∃ u : Nat, v = (u : Int) := ⟨v.toNat, by omega⟩
      rw [Int.toNat_natCast]
      exact implDist_yes M u A c es w hn h (by omega) hE
end Go.Proofs.Ythdpfmgljnmafab
