/- The two functions that tell digits, the specification's and the program's, answer alike: one plain Bool function of the bytes. -/
import Derived.Test.YtijmenmmijkpbaaRows
import Derived.WalkKit
import Derived.WalkSpells
import Derived.WalkLawsBesides
import Derived.Lib.Hide
namespace Go.Proofs.Ytijmenmmijkpbaa
open Go.RowKit

def digB (c : UInt8) : Bool := decide (48 ≤ (c.toNat : Int)) && decide ((c.toNat : Int) ≤ 57)
def digitsB (l : List UInt8) : Bool := l.all digB && !l.isEmpty

theorem ret_bool {a b : Bool} (h : a = b) : Ending.returned (.bool a) = .returned (.bool b) := by rw [h]
theorem take_snoc (s : ByteArray) (k : Nat) (h : k < s.size) : s.data.toList.take (k + 1) = s.data.toList.take k ++ [s[k]] := by
  rw [List.take_succ_eq_append_getElem (by simpa using h)]; rfl
theorem all_snoc (s : ByteArray) (p : UInt8 → Bool) (k : Nat) (h : k < s.size) (ht : (s.data.toList.take k).all p = true) (hp : p s[k] = true) :
    (s.data.toList.take (k + 1)).all p = true := by
  rw [take_snoc s k h]; simp only [List.all_append, ht, Bool.true_and]; simp [hp]
theorem all_miss (s : ByteArray) (p : UInt8 → Bool) (k : Nat) (h : k < s.size) (hp : p s[k] = false) : s.data.toList.all p = false := by
  apply Bool.eq_false_iff.2
  intro ha
  rw [List.all_eq_true] at ha
  have := ha s[k] (by simp [ByteArray.getElem_eq_getElem_data])
  rw [hp] at this
  cases this
theorem all_end (s : ByteArray) (p : UInt8 → Bool) (k : Nat) (h : s.size ≤ k) (ht : (s.data.toList.take k).all p = true) : s.data.toList.all p = true := by
  rwa [List.take_of_length_le (by simpa using h)] at ht
theorem digB_t (c : UInt8) (h : 48 ≤ (c.toNat : Int)) (h2 : (c.toNat : Int) ≤ 57) : digB c = true := by simp only [digB, decide_eq_true h, decide_eq_true h2]; rfl
theorem digB_lo (c : UInt8) (h : (c.toNat : Int) < 48) : digB c = false := by simp only [digB]; rw [decide_eq_false (by omega)]; rfl
theorem digB_hi (c : UInt8) (h : 57 < (c.toNat : Int)) : digB c = false := by simp only [digB]; rw [decide_eq_false (p := (c.toNat : Int) ≤ 57) (by omega)]; simp
theorem digitsB_no {l : List UInt8} (h : l.all digB = false) : digitsB l = false := by simp only [digitsB, h]; rfl
theorem digitsB_end (s : ByteArray) (h : s.data.toList.all digB = true) : digitsB s.data.toList = decide (0 < s.size) := by
  simp only [digitsB, h, Bool.true_and]
  have : s.data.toList.length = s.size := by simp
  cases hs : s.data.toList with
  | nil => rw [hs] at this; simp at this; simp [← this]
  | cons a l => rw [hs] at this; simp at this; simp [← this]

set_option maxHeartbeats 400000 in
theorem specDigits (s : ByteArray) (w : World) (hs : s.size ≤ maxLen) :
    Calls Try.prog 9 #[.string s] w fun e w' => e = .returned (.bool (digitsB s.data.toList)) ∧ w = w' := by
  unfold maxLen at hs
  go_enter Try.func9, Try.ntmps9
  go_wp2
  go_loop [3] (fun i => ∃ k : Nat, k ≤ s.size ∧ i = .int .i64 k ∧ (s.data.toList.take k).all digB = true) (fun i => s.size - (intOf i).toNat)
  case atStart => exact ⟨0, Nat.zero_le _, rfl, rfl⟩
  case round =>
    obtain ⟨k, hk, rfl, hd0⟩ := hrel
    have hd := Lib.hid hd0
    clear hd0
    by_cases hlt : k < s.size
    · go_wp2
      · go_ret
        have h1 : (s[k].toNat : Int) < 48 ∨ 57 < (s[k].toNat : Int) := by assumption
        exact ⟨ret_bool (digitsB_no (all_miss s digB k hlt (by rcases h1 with h | h; exact digB_lo _ h; exact digB_hi _ h))).symm, rfl⟩
      · have h1 : 48 ≤ (s[k].toNat : Int) ∧ (s[k].toNat : Int) ≤ 57 := by assumption
        exact ⟨⟨k + 1, by omega, by go_num, all_snoc s digB k hlt hd.out (digB_t _ h1.1 h1.2)⟩, by simp [intOf]; omega⟩
      · go_ret
        have h1 : (s[k].toNat : Int) < 48 := by assumption
        exact ⟨ret_bool (digitsB_no (all_miss s digB k hlt (digB_lo _ h1))).symm, rfl⟩
    · go_wp2
      go_ret
      exact ⟨ret_bool ((digitsB_end s (all_end s digB k (by omega) hd.out)).trans (by simp)).symm, rfl⟩

set_option maxHeartbeats 400000 in
theorem implDigit (r : Int) (w : World) : Calls Try.prog 26 #[.int .i32 r] w fun e w' => e = .returned (.bool (decide (48 ≤ r) && decide (r ≤ 57))) ∧ w = w' := by
  go_enter Try.func26, Try.ntmps26
  go_wp2
  · go_ret
    have h : 48 ≤ r := by assumption
    exact ⟨ret_bool (by simp [h]), rfl⟩
  · go_ret
    have h : r < 48 := by assumption
    exact ⟨ret_bool (by simp only [show decide (48 ≤ r) = false from decide_eq_false (by omega), Bool.false_and]), rfl⟩

theorem width_pos (s : ByteArray) (pos : Nat) (h : pos < s.size) : 1 ≤ (Utf8.decode s pos).2 := by
  by_cases ha : (s[pos]'h).toNat < 128
  · rw [decode_ascii s pos h ha]
    exact Nat.le_refl _
  · exact (decode_high s pos h (by omega)).2
/-- a rune that is a small number is the byte itself -/
theorem rune_small (s : ByteArray) (pos : Nat) (h : pos < s.size) (hr : (Utf8.decode s pos).1 < 128) : (Utf8.decode s pos) = ((s[pos]'h).toNat, 1) := by
  by_cases ha : (s[pos]'h).toNat < 128
  · exact decode_ascii s pos h ha
  · have := (decode_high s pos h (by omega)).1; omega

theorem digB_rune (s : ByteArray) (pos : Nat) (h : pos < s.size) (h1 : (!decide (48 ≤ ((Utf8.decode s pos).1 : Int))) = true ∨ (!decide (((Utf8.decode s pos).1 : Int) ≤ 57)) = true) : digB s[pos] = false := by
  simp only [Bool.not_eq_true', decide_eq_false_iff_not] at h1
  by_cases hr : (Utf8.decode s pos).1 < 128
  · have e := rune_small s pos h hr
    rw [e] at h1
    rcases h1 with h1 | h1
    · exact digB_lo _ (by simpa using h1)
    · exact digB_hi _ (by simpa using h1)
  · have ha : ¬ (s[pos]'h).toNat < 128 := fun ha => hr (by rw [decode_ascii s pos h ha]; exact ha)
    exact digB_hi _ (by omega)
theorem digT_rune (s : ByteArray) (pos : Nat) (h : pos < s.size) (h1 : (!decide (48 ≤ ((Utf8.decode s pos).1 : Int))) = false ∧ (!decide (((Utf8.decode s pos).1 : Int) ≤ 57)) = false) :
    Utf8.decode s pos = (s[pos].toNat, 1) ∧ digB s[pos] = true := by
  simp only [Bool.not_eq_false', decide_eq_true_eq] at h1
  have e := rune_small s pos h (by omega)
  refine ⟨e, ?_⟩
  rw [e] at h1
  exact digB_t _ (by simpa using h1.1) (by simpa using h1.2)
theorem nonempty_size (s : ByteArray) : (!s.toList.isEmpty) = decide (0 < s.size) := by
  have h : s.toList.isEmpty = true ↔ s = ByteArray.empty := by rw [List.isEmpty_iff]; exact toList_nil_iff_emptyBytes s
  have h2 : s = ByteArray.empty ↔ s.size = 0 := ⟨fun e => by rw [e]; rfl, fun e => ByteArray.ext (Array.eq_empty_of_size_eq_zero e)⟩
  rw [Bool.eq_iff_iff, Bool.not_eq_true', Bool.eq_false_iff, decide_eq_true_iff]
  rw [Ne, h, h2]
  omega
set_option maxHeartbeats 400000 in
theorem implDigits (s : ByteArray) (w : World) :
    Calls Try.prog 10 #[.string s] w fun e w' => e = .returned (.bool (digitsB s.data.toList)) ∧ ∃ pos, w' = w.iter s pos := by
  go_enter Try.func10, Try.ntmps10
  go_wp2
  go_loopw [] (fun w' => ∃ pos : Nat, w' = w.iter s pos ∧ pos ≤ s.size ∧ Hid ((s.data.toList.take pos).all digB = true)) (fun w' => s.size - w'.iterPos w.heap.size)
  case atStart => exact ⟨0, rfl, Nat.zero_le _, Lib.hid rfl⟩
  case round =>
    obtain ⟨pos, rfl, hle, hd⟩ := hrel
    by_cases hp : pos < s.size
    · have hnx : ∀ ty, (Instr.next (.pointer (some ⟨w.heap.size, 0, none⟩)) true ty).run Try.prog (w.iter s pos) = _ := fun ty => run_next_any w s pos ty hp
      go_wp2_with (go_at_call 26; refine (implDigit _ _).mono ?_; rintro e w' ⟨rfl, rfl⟩)
      · go_ret
        have h1 : (!decide (48 ≤ ((Utf8.decode s pos).1 : Int))) = true ∨ (!decide (((Utf8.decode s pos).1 : Int) ≤ 57)) = true := by assumption
        exact ⟨ret_bool (digitsB_no (all_miss s digB pos hp (digB_rune s pos hp h1))).symm, _, rfl⟩
      · have h1 : (!decide (48 ≤ ((Utf8.decode s pos).1 : Int))) = false ∧ (!decide (((Utf8.decode s pos).1 : Int) ≤ 57)) = false := by assumption
        obtain ⟨e, ht⟩ := digT_rune s pos hp h1
        rw [e]
        exact ⟨⟨_, rfl, by omega, Lib.hid (all_snoc s digB pos hp hd.out ht)⟩, by simp; omega⟩
    · have hnx : ∀ ty, (Instr.next (.pointer (some ⟨w.heap.size, 0, none⟩)) true ty).run Try.prog (w.iter s pos) = _ := fun ty => run_next_end w s pos ty hp
      go_wp2
      go_ret
      exact ⟨ret_bool ((digitsB_end s (all_end s digB pos (by omega) hd.out)).trans (nonempty_size s).symm).symm, _, rfl⟩

theorem below_iter (w : World) (s : ByteArray) (pos : Nat) : Below w.heap.size w (w.iter s pos) := (Below.refl _ _).alloc (Nat.le_refl _) _
set_option maxHeartbeats 400000 in
theorem lawDigits (s : ByteArray) (w : World) (hs : s.size ≤ maxLen) :
    Calls Try.prog 3 #[.string s] w fun e w' => e = .returned (.bool true) ∧ Below w.heap.size w w' := by
  unfold maxLen at hs
  go_enter Try.func3, Try.ntmps3
  go_wp2_with (first | (go_at_call 9; refine (specDigits _ _ (by unfold maxLen; omega)).mono ?_; rintro e w' ⟨rfl, rfl⟩) | (go_at_call 10; refine (implDigits _ _).mono ?_; rintro e w' ⟨rfl, pos, rfl⟩))
  · go_ret
    exact ⟨rfl, Below.refl _ _⟩
  · go_ret
    exact ⟨rfl, below_iter _ _ _⟩
end Go.Proofs.Ytijmenmmijkpbaa
