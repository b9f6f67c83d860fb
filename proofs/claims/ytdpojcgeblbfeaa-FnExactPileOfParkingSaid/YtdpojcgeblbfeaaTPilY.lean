/- Sandpiles: the program's first unstable vertex, its sandpile. -/
import Derived.Test.YtdpojcgeblbfeaaTUnsI
set_option linter.all false
namespace Go.Proofs.Ytdpojcgeblbfeaa
open Go.RowKit

theorem Pile.below {w w' : World} {sp pb g M cg cA q : Nat} {A : Option Addr} {es : List (Int × Int)} {P : List Int} (h : Pile w sp pb g M cg cA q A es P) (hb : Below w.heap.size w w') : Pile w' sp pb g M cg cA q A es P :=
  ⟨(hb.block sp h.sand.lt).trans h.sand, (hb.block pb h.board.lt).trans h.board, h.chips.below hb⟩
set_option maxRecDepth 100000 in
set_option maxHeartbeats 2000000 in
theorem firstUnst_any (sp pb g M cg cA q B : Nat) (A : Option Addr) (es : List (Int × Int)) (P : List Int) (w : World) (hBw : B ≤ w.heap.size) (hn : es.length ≤ 12) (hes : ∀ e ∈ es, e.1 < e.2) (hM : M ≤ 6) (hP : P.length = M) (hS : Pile w sp pb g M cg cA q A es P) (hE : EdgeS w B A es) :
    Calls Try.prog 116 #[.pointer (some ⟨sp, 0, none⟩)] w fun e w' => e = .returned (.int .i64 (unsI (unsF M q es P))) ∧ Below w.heap.size w w' := by
  have c0 : w.cell? ⟨sp, 0, none⟩ = some (.pointer (some ⟨pb, 0, none⟩)) := by rw [hS.sand.cell]; rfl
  have c2 : w.cell? ⟨pb, 1, none⟩ = some (.slice (some ⟨g, 0, none⟩) M cg) := by rw [hS.board.cell]; rfl
  have HU := Lib.hid (fun (v : Nat) (W : World) (hv : v < M) (hb : Below w.heap.size w W) => isUnst_any sp pb g M cg cA q v B A es P W (Nat.le_trans hBw hb.size) hn hes hP hv (hS.below hb) (hE.below (hb.mono hBw)))
  clear hE hS hes hn hBw hP
  go_enter Try.func116, Try.ntmps116
  go_wp2
  go_loopw [12] (fun i wr => ∃ k : Nat, k ≤ M ∧ i = .int .i64 k ∧ (∀ j, j < k → uns1 q es P j = false) ∧ Below w.heap.size w wr) (fun i _ => M - (intOf i).toNat)
  case atStart => exact ⟨0, Nat.zero_le _, rfl, fun j hj => absurd hj (Nat.not_lt_zero _), Below.refl _ _⟩
  case round =>
    clear c0 c2
    obtain ⟨k, hk, rfl, hno, hb⟩ := hrel
    have HN := Lib.hid hno
    have HB := Lib.hid hb
    clear hno hb
    have hk0 : (0 : Int) ≤ (k : Int) := Int.natCast_nonneg _
    by_cases hlt : k < M
    · have hk1 : (k : Int) < (M : Int) := by omega
      have HU2 := HU.out k wr hlt HB.out
      cases hu : uns1 q es P k with
      | false =>
        have HN2 := Lib.hid (show ∀ j, j < k + 1 → uns1 q es P j = false from fun j hj => by
          by_cases e : j = k
          · rw [e]; exact hu
          · exact HN.out j (by omega))
        rw [hu] at HU2
        clear hu
        go_wp2_with fail
        refine HU2.mono ?_
        rintro e w2 ⟨rfl, hb2⟩
        have HB2 := Lib.hid (HB.out.trans (hb2.mono HB.out.size))
        clear hb2 HU2
        go_wp2
        exact ⟨⟨k + 1, by omega, by go_num, HN2.out, HB2.out⟩, by simp [intOf]; omega⟩
      | true =>
        have HF := Lib.hid (show unsI (unsF M q es P) = (k : Int) by rw [unsF_at hlt HN.out hu]; rfl)
        rw [hu] at HU2
        clear hu
        go_wp2_with fail
        refine HU2.mono ?_
        rintro e w2 ⟨rfl, hb2⟩
        have HB2 := Lib.hid (HB.out.trans (hb2.mono HB.out.size))
        clear hb2 HU2
        go_wp2
        go_ret
        exact ⟨by rw [HF.out]; rfl, HB2.out⟩
    · have hkM : k = M := by omega
      have HF := Lib.hid (show unsI (unsF M q es P) = -1 by rw [unsF_no (by rw [← hkM]; exact HN.out)]; rfl)
      clear hkM
      go_wp2
      go_ret
      exact ⟨by rw [HF.out]; rfl, HB.out⟩
def GivesPile (w : World) (M q : Nat) (A : Option Addr) (n : Nat) (es : List (Int × Int)) (d : List Int) (e : Ending) (w' : World) : Prop :=
  ∃ sp pb g cg : Nat, e = .returned (.pointer (some ⟨sp, 0, none⟩)) ∧ Pile w' sp pb g M cg n q A es d ∧ w.heap.size ≤ g ∧ g < pb ∧ pb < sp ∧ Below w.heap.size w w'
set_option maxRecDepth 100000 in
set_option maxHeartbeats 1000000 in
theorem pileOf_any (N : Int) (A D : Option Addr) (c cd q : Nat) (es : List (Int × Int)) (d : List Int) (w : World) (h0 : 0 < d.length) (hd : d.length ≤ 1048576) (hS : IntS w w.heap.size D d) :
    Calls Try.prog 114 #[.agg #[.int .i64 N, .slice A es.length c], .slice D d.length cd, .int .i64 (q : Int)] w (GivesPile w d.length q A c es d) := by
  have G0 := GB.start w N A c es
  have HB := Lib.hid (fun (W : World) (h : Below w.heap.size w W) => boardOf_any N A D es.length c cd d W h0 hd (hS.up_ h))
  clear hS
  go_enter Try.func114, Try.ntmps114
  have c0 := G0.c0
  have c1 := G0.c1
  go_wp2_with fail
  refine (HB.out _ G0.old).mono ?_
  rintro e w1 ⟨pb, g, cg, rfl, hB, hC, hg, hgp, hb1⟩
  have hb2 := Lib.hid (G0.old.trans (hb1.mono G0.old.size))
  have hsz := G0.old.size
  have hBL := Lib.hid hB
  have hCL := Lib.hid hC
  have hpl := hB.lt
  clear hB hC c0 c1 G0 hb1
  go_wp2
  go_ret
  exact ⟨w1.heap.size, pb, g, cg, rfl, ⟨Blk.new _ _ _, (((Below.refl _ _).alloc (Nat.le_refl _) _).block pb hpl).trans hBL.out, hCL.out.below ((Below.refl _ _).alloc (Nat.le_refl _) _)⟩, by omega, hgp, hpl, hb2.out.alloc hb2.out.size _⟩
end Go.Proofs.Ytdpojcgeblbfeaa
