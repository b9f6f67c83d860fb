/- The specification tells digits: a plain Bool function of the bytes. -/
import Derived.Test.YtbmihbbpdmpmpaaDoorRows
import Derived.WalkKit
import Derived.WalkSpells
import Derived.WalkLawsBesides
import Derived.Lib.Hide
namespace Go.Proofs.YtbmihbbpdmpmpaaDoor
open Go.RowKit

def digB (c : UInt8) : Bool := decide (48 ≤ (c.toNat : Int)) && decide ((c.toNat : Int) ≤ 57)
def digitsB (l : List UInt8) : Bool := l.all digB && !l.isEmpty

theorem ret_bool {a b : Bool} (h : a = b) : Ending.returned (.bool a) = .returned (.bool b) := by rw [h]
theorem take_snoc (s : ByteArray) (k : Nat) (h : k < s.size) : s.data.toList.take (k + 1) = s.data.toList.take k ++ [s[k]] := by
  rw [List.take_succ_eq_append_getElem (by simpa using h)]; rfl
theorem all_snoc (s : ByteArray) (p : UInt8 → Bool) (k : Nat) (h : k < s.size) (ht : (s.data.toList.take k).all p = true) (hp : p s[k] = true) :
    (s.data.toList.take (k + 1)).all p = true := by
  rw [take_snoc s k h]; simp only [List.all_append, ht, Bool.true_and]; simp [hp]
theorem all_miss (s : ByteArray) (p : UInt8 → Bool) (k : Nat) (h : k < s.size) (hp : p s[k] = false) : s.data.toList.all p = false := by
  apply Bool.eq_false_iff.2
  intro ha
  rw [List.all_eq_true] at ha
  have := ha s[k] (by simp [ByteArray.getElem_eq_getElem_data])
  rw [hp] at this
  cases this
theorem all_end (s : ByteArray) (p : UInt8 → Bool) (k : Nat) (h : s.size ≤ k) (ht : (s.data.toList.take k).all p = true) : s.data.toList.all p = true := by
  rwa [List.take_of_length_le (by simpa using h)] at ht
theorem digB_t (c : UInt8) (h : 48 ≤ (c.toNat : Int)) (h2 : (c.toNat : Int) ≤ 57) : digB c = true := by simp only [digB, decide_eq_true h, decide_eq_true h2]; rfl
theorem digB_lo (c : UInt8) (h : (c.toNat : Int) < 48) : digB c = false := by simp only [digB]; rw [decide_eq_false (by omega)]; rfl
theorem digB_hi (c : UInt8) (h : 57 < (c.toNat : Int)) : digB c = false := by simp only [digB]; rw [decide_eq_false (p := (c.toNat : Int) ≤ 57) (by omega)]; simp
theorem digitsB_no {l : List UInt8} (h : l.all digB = false) : digitsB l = false := by simp only [digitsB, h]; rfl
theorem digitsB_end (s : ByteArray) (h : s.data.toList.all digB = true) : digitsB s.data.toList = decide (0 < s.size) := by
  simp only [digitsB, h, Bool.true_and]
  have : s.data.toList.length = s.size := by simp
  cases hs : s.data.toList with
  | nil => rw [hs] at this; simp at this; simp [← this]
  | cons a l => rw [hs] at this; simp at this; simp [← this]

set_option maxHeartbeats 400000 in
theorem specDigits (s : ByteArray) (w : World) (hs : s.size ≤ maxLen) :
    Calls Tryd.prog 17 #[.string s] w fun e w' => e = .returned (.bool (digitsB s.data.toList)) ∧ w = w' := by
  unfold maxLen at hs
  go_enter Tryd.func17, Tryd.ntmps17
  go_wp2
  go_loop [3] (fun i => ∃ k : Nat, k ≤ s.size ∧ i = .int .i64 k ∧ (s.data.toList.take k).all digB = true) (fun i => s.size - (intOf i).toNat)
  case atStart => exact ⟨0, Nat.zero_le _, rfl, rfl⟩
  case round =>
    obtain ⟨k, hk, rfl, hd0⟩ := hrel
    have hd := Lib.hid hd0
    clear hd0
    by_cases hlt : k < s.size
    · go_wp2
      · go_ret
        have h1 : (s[k].toNat : Int) < 48 ∨ 57 < (s[k].toNat : Int) := by assumption
        exact ⟨ret_bool (digitsB_no (all_miss s digB k hlt (by rcases h1 with h | h; exact digB_lo _ h; exact digB_hi _ h))).symm, rfl⟩
      · have h1 : 48 ≤ (s[k].toNat : Int) ∧ (s[k].toNat : Int) ≤ 57 := by assumption
        exact ⟨⟨k + 1, by omega, by go_num, all_snoc s digB k hlt hd.out (digB_t _ h1.1 h1.2)⟩, by simp [intOf]; omega⟩
      · go_ret
        have h1 : (s[k].toNat : Int) < 48 := by assumption
        exact ⟨ret_bool (digitsB_no (all_miss s digB k hlt (digB_lo _ h1))).symm, rfl⟩
    · go_wp2
      go_ret
      exact ⟨ret_bool ((digitsB_end s (all_end s digB k (by omega) hd.out)).trans (by simp)).symm, rfl⟩

end Go.Proofs.YtbmihbbpdmpmpaaDoor
