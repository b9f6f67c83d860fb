/- The library's slices.Repeat at a slice of one int. -/
import Derived.Test.YtkmbdclhjdbhpabIntB
import Derived.Test.YtkmbdclhjdbhpabShCmp
import Derived.Laws.CopyOwn
import Derived.Deep.RegionHeld3
namespace Go.Proofs.Ytkmbdclhjdbhpab
open Go.RowKit

/-- k cells filled, the others 0 -/
def repV (N : Nat) (x : Int) (k : Nat) : List Value := List.replicate k (.int .i64 x) ++ List.replicate (N - k) (.int .i64 0)
theorem repV_len {N k : Nat} {x : Int} (h : k ≤ N) : (repV N x k).length = N := by simp [repV]; omega
theorem intSize : (Try.prog.info? 3).map (·.size) = some 1 := by kernel_rfl
theorem repV_zero (N : Nat) (x : Int) : repV N x 0 = intCells (List.replicate N 0) := by simp [repV, intCells]
theorem repV_all (N : Nat) (x : Int) : repV N x N = intCells (List.replicate N x) := by simp [repV, intCells]
theorem repV_splice {N k m : Nat} {x : Int} : splice (repV N x k) k (List.replicate m (.int .i64 x)) = repV N x (k + m) := by
  unfold splice repV
  rw [List.take_left' (by simp), List.length_replicate, List.drop_append, List.length_replicate]
  rw [List.drop_of_length_le (by simp), List.drop_replicate, ← List.append_assoc, List.replicate_append_replicate]
  congr 2
  simp
  omega
theorem repV_at {N k j : Nat} {x : Int} (h : j < k) : (repV N x k)[j]? = some (.int .i64 x) := by
  unfold repV
  rw [List.getElem?_append_left (by simpa using h), List.getElem?_replicate, if_pos h]
theorem mulOne (N : Nat) (hN : N ≤ 1048576) (w : World) : Calls Try.prog 119 #[.int .u64 1, .int .u64 (N : Int)] w fun e w' => e = .returned (.tuple #[.int .u64 0, .int .u64 (N : Int)]) ∧ w = w' := by
  have h := Try.bits_Mul 1 N (by omega) (by omega) w
  rw [show 1 * N / 18446744073709551616 = 0 by omega, show 1 * N % 18446744073709551616 = N by omega] at h
  exact h.mono fun e w' ⟨h1, h2⟩ => ⟨h1, h2.symm⟩

set_option maxRecDepth 100000 in
set_option maxHeartbeats 2000000 in
theorem repeat_any (b N : Nat) (x : Int) (w : World) (hb : b < w.heap.size) (h0 : w.cell? ⟨b, 0, none⟩ = some (.int .i64 x)) (hN1 : 1 ≤ N) (hN : N ≤ 1048576) :
    Calls Try.prog 109 #[.slice (some ⟨b, 0, none⟩) 1 1, .int .i64 (N : Int)] w fun e w' =>
      e = .returned (.slice (some ⟨w.heap.size, 0, none⟩) N N) ∧ Blk w' w.heap.size 3 (intCells (List.replicate N x)).toArray ∧ Below w.heap.size w w' := by
  have hmk := make_ints N hN
  have H0 := Lib.hid h0
  have HZ : Hid (Blk (w.alloc (Obj.cells (intCells (List.replicate N 0)).toArray 3)) w.heap.size 3 (repV N x 0).toArray) := Lib.hid (by rw [repV_zero]; exact Blk.new w _ _)
  clear h0
  go_enter Try.func109, Try.ntmps109
  go_wp2_with (first | (go_at_call 119; refine (mulOne N hN _).mono ?_; rintro e w' ⟨rfl, rfl⟩) | (refine wpList_copy_splice rfl _ _ 23 23 rfl 3 Try.underlying23 intSize _ _ _ _ _ _ rfl rfl w.heap.size 0 (repV N x 0) 3 HZ.out [.int .i64 x] ?d2 ?d3 ?d4 ?d5 w.heap.size w ((Below.refl _ _).alloc (Nat.le_refl _) _) (Nat.le_refl _) ?_))
  case d2 => exact (Nat.min_eq_left hN1).symm
  case d3 =>
    intro j v hj
    cases j with
    | zero =>
      simp only [List.getElem?_cons_zero, Option.some.injEq] at hj
      subst hj
      exact H0.out
    | succ j => simp at hj
  case d4 => rw [repV_len (Nat.zero_le _)]; exact hN1
  case d5 => simp [Value.oneCell']
  intro w2 hg2 hb2
  have HG2 : Hid (Blk w2 w.heap.size 3 (repV N x 1).toArray) := Lib.hid (by
    have h := hg2.out
    rw [show [Value.int .i64 x] = List.replicate 1 (Value.int .i64 x) from rfl, repV_splice] at h
    exact h)
  clear hg2 hmk
  go_wp2
  go_loopw [8] (fun i wr => ∃ k : Nat, 1 ≤ k ∧ k ≤ N ∧ i = .int .i64 k ∧ Blk wr w.heap.size 3 (repV N x k).toArray ∧ Below w.heap.size w wr) (fun i _ => N - (intOf i).toNat)
  case atStart => exact ⟨1, Nat.le_refl _, hN1, rfl, HG2.out, hb2⟩
  case round =>
    obtain ⟨k, hk1, hkN, rfl, hblk, hb3⟩ := hrel
    have HK := Lib.hid hblk
    clear hblk
    by_cases hlt : k < N
    · obtain ⟨m, hm⟩ : ∃ m, m = Nat.min k (N - k) := ⟨_, rfl⟩
      have hm1 : 1 ≤ m := by rw [hm]; exact Nat.le_min.2 ⟨hk1, by omega⟩
      have hm2 : m ≤ k := by rw [hm]; exact Nat.min_le_left _ _
      have hm3 : m ≤ N - k := by rw [hm]; exact Nat.min_le_right _ _
      have HM := Lib.hid hm
      have HCS : Hid (∀ (j : Nat) (v : Value), (List.replicate m (Value.int .i64 x))[j]? = some v → wr.drew.cell? ((⟨w.heap.size, 0, none⟩ : Addr).add j) = some v) := Lib.hid (by
        intro j v hj
        rw [List.getElem?_replicate] at hj
        split at hj
        · rename_i hjm
          injection hj with hj
          subst hj
          have := HK.out.drew.cell (0 + j)
          rw [Nat.zero_add, List.getElem?_toArray, repV_at (by omega)] at this
          have e : (⟨w.heap.size, 0, none⟩ : Addr).add j = ⟨w.heap.size, j, none⟩ := by cases j <;> simp [Addr.add]
          rw [e, this]
        · cases hj)
      have hnk : ¬ N = k := by omega
      have hw : IntKind.i64.wrap ((k : Int) + (m : Int)) = (k : Int) + (m : Int) := by rw [IntKind.wrap_i64]; omega
      clear hm
      have hi0 : (0 : Int) ≤ (k : Int) := Int.natCast_nonneg _
      have hi1 : (k : Int) ≤ (N : Int) := by omega
      go_wp2_with fail
      go_region_held3 (fun _ => True) (trivial) (first | (refine step_copy_splice rfl (.tmp 41) (.tmp 44) 23 23 rfl 3 Try.underlying23 intSize (some ⟨w.heap.size, k, none⟩) (some ⟨w.heap.size, 0, none⟩) (N - k) (N - k) k N (by simp [Act.eval]) (by simp [Act.eval]) w.heap.size k (repV N x k) 3 HK.out.drew (List.replicate m (Value.int .i64 x)) (by rw [List.length_replicate]; exact HM.out) (fun _ => ⟨rfl, ⟨w.heap.size, 0, none⟩, rfl, HCS.out⟩) (by rw [List.length_replicate, repV_len hkN]; omega) (by intro v hv; rw [List.eq_of_mem_replicate hv]; rfl) w.heap.size w hb3.drew (Nat.le_refl _) ?_; intro w4 hg4 hb4))
      all_goals
        have HG4 : Hid (Blk w4 w.heap.size 3 (repV N x (k + m)).toArray) := Lib.hid (by
          have h := hg4.out
          rw [repV_splice] at h
          exact h)
        clear hg4
        have hlm : (List.replicate m (Value.int .i64 x)).length = m := by simp
        go_wp2
        exact ⟨⟨k + m, by omega, by omega, by go_num, HG4.out, hb4⟩, by simp [intOf]; omega⟩
    · have HF : Hid (Blk wr w.heap.size 3 (intCells (List.replicate N x)).toArray) := Lib.hid (by
        have h := HK.out
        rw [show k = N by omega, repV_all] at h
        exact h)
      go_wp2
      go_ret
      exact ⟨rfl, HF.out, hb3⟩
end Go.Proofs.Ytkmbdclhjdbhpab
