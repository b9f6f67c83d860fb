/- Slices of slices of ints: the laws' marks. -/
import Derived.Test.YtkmbdclhjdbhpabIntSS
namespace Go.Proofs.Ytkmbdclhjdbhpab
open Go.RowKit

set_option maxHeartbeats 1000000 in
theorem markIntSS_any (c g hi : Nat) (rs : List (List Int)) (k : Int) (w : World) (hn : rs.length ≤ 1048576) (hl : lens rs ≤ 1048576) (h0 : 0 ≤ k) (h1 : k ≤ 1048576) (hR : RowsTo w g hi rs rs.length) :
    Calls Try.prog 21 #[.slice (some ⟨g, 0, none⟩) rs.length c, .int .i64 k] w fun e w' => e = .returned (.int .i64 (k + lens rs)) ∧ Between w w' g hi := by
  obtain ⟨vals, G, q1, q2, q3, q4⟩ := hR
  rw [Nat.sub_self, List.replicate_zero, List.append_nil] at q1
  have Q1 := Lib.hid q1
  have Q2 := Lib.hid q2
  have Q3 := Lib.hid q3
  have Q4 := Lib.hid q4
  clear q1 q2 q3 q4
  go_enter Try.func21, Try.ntmps21
  go_wp2
  go_loopw [1, 5] (fun m i wr => ∃ j : Nat, j ≤ rs.length ∧ i = .int .i64 j ∧ m = .int .i64 (k + (lens (rs.take j) : Int)) ∧ Between w wr g hi ∧ ∀ (i : Nat) (r : List Int), j ≤ i → rs[i]? = some r → Blk wr (G i) 3 (intCells r).toArray) (fun _ i _ => rs.length - (intOf i).toNat)
  case atStart => exact ⟨0, Nat.zero_le _, rfl, by simp [lens], Between.refl _ _ _, fun i r _ hr => (Q3.out i r (List.getElem?_eq_some_iff.1 hr).1 hr).2.2.2⟩
  case round =>
    obtain ⟨j, hj, rfl, rfl, hbt, hrest⟩ := hrel
    have HBT := Lib.hid hbt
    have HRS := Lib.hid hrest
    have hle := lens_take_le rs j
    clear hbt hrest
    by_cases hlt : j < rs.length
    · have he : rs[j]? = some rs[j] := List.getElem?_eq_getElem hlt
      obtain ⟨r, hr⟩ : ∃ r, r = rs[j] := ⟨_, rfl⟩
      rw [← hr] at he
      obtain ⟨p1, p2, p3, _⟩ := Q3.out j r hlt he
      have hblk := HRS.out j r (Nat.le_refl _) he
      have hg := Q1.out.between HBT.out (.inl (Nat.le_refl _))
      have hc0 : wr.cell? ⟨g, j, none⟩ = some (.slice (some ⟨G j, 0, none⟩) r.length r.length) := by
        rw [hg.cell, List.getElem?_toArray]
        exact p1
      have hrl := len_le_lens he
      have HS := Lib.hid (lens_snoc he)
      have HX := Lib.hid he
      have HB := Lib.hid hblk
      have hi0 : (0 : Int) ≤ (j : Int) := Int.natCast_nonneg _
      have hi1 : (j : Int) < (rs.length : Int) := by omega
      clear he hblk hg p1 hr
      go_wp2_with fail
      refine (markIntS_any _ _ 0 r _ _ (by omega) (by omega) (by omega) (OwnI.of_blk HB.out (Nat.zero_le _))).mono ?_
      rintro e2 w2 ⟨rfl, _, ht, _⟩
      have hle2 := lens_take_le rs (j + 1)
      have HT := Lib.hid ht
      clear ht
      go_wp2
      refine ⟨⟨j + 1, by omega, by go_num, by rw [HS.out]; congr 1; omega, HBT.out.trans (HT.out.between p2 p3), fun i r2 hji hr2 => ?_⟩, by simp [intOf]; omega⟩
      exact (HRS.out i r2 (by omega) hr2).turned HT.out (by have := Q4.out j i (by omega) (List.getElem?_eq_some_iff.1 hr2).1; omega)
    · have HA := Lib.hid (show lens (rs.take j) = lens rs by rw [List.take_of_length_le (by omega)])
      go_wp2
      go_ret
      exact ⟨ret_intE (by rw [HA.out]), HBT.out⟩
end Go.Proofs.Ytkmbdclhjdbhpab
