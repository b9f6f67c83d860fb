/- The laws' heldStringS. -/
import Derived.Test.YtbmihbbpdmpmpaaMarkS
import Derived.Deep.RegionHeld3
namespace Go.Proofs.Ytbmihbbpdmpmpaa
open Go.RowKit

theorem keepT {w W w2 : World} {p : Addr} {a : Value} (hS : W.cell? p = some a ∧ Below w.heap.size w W) (hb : Below W.heap.size W w2) (hp : p.block < w.heap.size) : w2.cell? p = some a ∧ Below w.heap.size w w2 := by
  obtain ⟨h1, h5⟩ := hS
  have hz := h5.size
  exact ⟨(hb.cell (by omega)).trans h1, h5.trans (hb.mono hz)⟩
set_option maxRecDepth 100000 in
set_option maxHeartbeats 1000000 in
theorem heldStringS_any (A : Option Addr) (c n : Nat) (k : Nat) (w : World) (hn : n ≤ 2000000) (h0 : 1 ≤ k) (h1 : k ≤ 2097152) (hS : StrS w w.heap.size A (marks k n)) :
    Calls Try.prog 38 #[.slice A n c, .int .i64 (k : Int)] w fun e w' => e = .returned (.int .i64 ((k + n : Nat) : Int)) ∧ Below w.heap.size w w' := by
  have HS := Lib.hid hS
  have HL := Lib.hid (marks_length k n)
  clear hS
  go_enter Try.func38, Try.ntmps38
  go_wp2
  go_loopw [1, 5] (fun m i wr => ∃ j : Nat, j ≤ n ∧ i = .int .i64 j ∧ m = .int .i64 ((k + j : Nat) : Int) ∧ Below w.heap.size w wr) (fun _ i _ => n - (intOf i).toNat)
  case atStart => exact ⟨0, Nat.zero_le _, rfl, rfl, Below.refl _ _⟩
  case round =>
    obtain ⟨j, hj, rfl, rfl, hb⟩ := hrel
    by_cases hlt2 : j < n
    · obtain ⟨b1, o1, x, rfl, hb1, he, hc0⟩ := (HS.out.below hb).at_ (k := j) (by rw [HL.out]; exact hlt2)
      rw [marks_at _ _ _ hlt2] at he
      injection he with he
      obtain ⟨mk, hmk⟩ : ∃ mk, mk = markB (k + j) := ⟨_, rfl⟩
      rw [← he, ← hmk] at hc0
      have HMT := fun w => Lib.hid (markText_any (k + j) w (by omega) (by omega))
      rw [show (⟨#[109]⟩ ++ txt (k + j) ⟨#[]⟩ : ByteArray) = mk from hmk.symm] at HMT
      have hi0 : (0 : Int) ≤ (j : Int) := Int.natCast_nonneg _
      have hi1 : (j : Int) < (n : Int) := by omega
      have hbw : b1 < wr.heap.size := by have := hb.size; omega
      have hl0 : wr.heap.size ≤ wr.heap.size := Nat.le_refl _
      clear he hmk
      go_wp2_with fail
      go_region_held3 (fun w' => w'.cell? ⟨b1, o1 + j, none⟩ = some (.string mk) ∧ Below wr.heap.size wr w')
        (first
          | exact ⟨hc0, (Below.refl _ _).drew⟩
          | exact keepT (by assumption) hb2 hbw)
        ((go_at_call 76; refine (HMT _).out.mono ?_; rintro e w2 ⟨rfl, hb2⟩))
      have hb3 : Below w.heap.size w w2 := hb.trans (((Below.refl wr.heap.size wr).drew.trans hb2).mono hb.size)
      go_wp2
      exact ⟨⟨j + 1, by omega, by go_num, by go_num, hb3⟩, by simp [intOf]; omega⟩
    · have HJ := Lib.hid (show j = n by omega)
      go_wp2
      go_ret
      exact ⟨ret_intE (by rw [HJ.out]), hb⟩
end Go.Proofs.Ytbmihbbpdmpmpaa
