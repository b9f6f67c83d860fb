/- The two functions that tell names, the specification's and the program's, answer alike: one plain Bool function of the bytes. -/
import Derived.Test.YtijmenmmijkpbaaRows
import Derived.Test.YtijmenmmijkpbaaDigits
import Derived.WalkKit
import Derived.WalkSpells
import Derived.WalkLawsBesides
import Derived.Lib.Hide
namespace Go.Proofs.Ytijmenmmijkpbaa
open Go.RowKit

def allUpto (p : Nat → Bool) : Nat → Bool
  | 0 => true
  | k + 1 => allUpto p k && p k
theorem allUpto_snoc {p : Nat → Bool} {k : Nat} (h : allUpto p k = true) (hk : p k = true) : allUpto p (k + 1) = true := by simp [allUpto, h, hk]
theorem allUpto_miss {p : Nat → Bool} {k : Nat} (hk : p k = false) : ∀ {n : Nat}, k < n → allUpto p n = false
  | n + 1, h => by
    by_cases e : k = n
    · subst e; simp [allUpto, hk]
    · simp [allUpto, allUpto_miss hk (show k < n by omega)]

def nmB (c : UInt8) (j : Nat) : Bool := (decide (97 ≤ (c.toNat : Int)) && decide ((c.toNat : Int) ≤ 122)) || (decide (0 < j) && digB c)
def nameB (s : ByteArray) : Bool := allUpto (fun j => nmB (s.data.toList.getD j 0) j) s.size && decide (1 ≤ s.size) && decide (s.size ≤ 8)
theorem getD_at (s : ByteArray) (j : Nat) (h : j < s.size) : s.data.toList.getD j 0 = s[j] := by
  simp [List.getD, List.getElem?_eq_getElem (show j < s.data.toList.length by simpa using h)]; rfl

set_option maxHeartbeats 400000 in
theorem specIn (a lo hi : Int) (w : World) : Calls Try.prog 27 #[.int .i64 a, .int .i64 lo, .int .i64 hi] w fun e w' => e = .returned (.bool (decide (lo ≤ a) && decide (a ≤ hi))) ∧ w = w' := by
  go_enter Try.func27, Try.ntmps27
  go_wp2
  · go_ret
    have h : lo ≤ a := by assumption
    exact ⟨ret_bool (by simp [h]), rfl⟩
  · go_ret
    have h : a < lo := by assumption
    exact ⟨ret_bool (by rw [decide_eq_false (p := lo ≤ a) (by omega)]; rfl), rfl⟩

theorem nmB_small {c : UInt8} {k : Nat} (h1 : 97 ≤ (c.toNat : Int)) (h2 : (c.toNat : Int) ≤ 122) : nmB c k = true := by simp [nmB, h1, h2]
theorem nmB_other {c : UInt8} {k : Nat} (h : (c.toNat : Int) < 97 ∨ 122 < (c.toNat : Int)) : nmB c k = (decide (0 < k) && digB c) := by
  have e : (decide (97 ≤ (c.toNat : Int)) && decide ((c.toNat : Int) ≤ 122)) = false := by
    rw [Bool.and_eq_false_iff, decide_eq_false_iff_not, decide_eq_false_iff_not]; omega
  simp only [nmB, e, Bool.false_or]
theorem name_cases (c : UInt8) (k : Nat) : (97 ≤ (c.toNat : Int) ∧ (c.toNat : Int) ≤ 122 ∧ nmB c k = true) ∨
    (((c.toNat : Int) < 97 ∨ 122 < (c.toNat : Int)) ∧ ((k = 0 ∧ nmB c k = false) ∨ (0 < k ∧ 48 ≤ (c.toNat : Int) ∧ (c.toNat : Int) ≤ 57 ∧ nmB c k = true) ∨ (0 < k ∧ (((c.toNat : Int) < 48 ∧ nmB c k = false) ∨ (57 < (c.toNat : Int) ∧ nmB c k = false))))) := by
  by_cases h1 : 97 ≤ (c.toNat : Int) ∧ (c.toNat : Int) ≤ 122
  · exact .inl ⟨h1.1, h1.2, nmB_small h1.1 h1.2⟩
  · have h : (c.toNat : Int) < 97 ∨ 122 < (c.toNat : Int) := by omega
    refine .inr ⟨h, ?_⟩
    rw [nmB_other h]
    by_cases hk : k = 0
    · subst hk; exact .inl ⟨rfl, rfl⟩
    · have hk' : 0 < k := by omega
      rw [decide_eq_true hk', Bool.true_and]
      by_cases h2 : 48 ≤ (c.toNat : Int) ∧ (c.toNat : Int) ≤ 57
      · exact .inr (.inl ⟨hk', h2.1, h2.2, digB_t c h2.1 h2.2⟩)
      · refine .inr (.inr ⟨hk', ?_⟩)
        by_cases h3 : (c.toNat : Int) < 48
        · exact .inl ⟨h3, digB_lo c h3⟩
        · have h4 : 57 < (c.toNat : Int) := by omega
          exact .inr ⟨h4, digB_hi c h4⟩
theorem nameB_miss {s : ByteArray} {k : Nat} (h : k < s.size) (hk : nmB (s.data.toList.getD k 0) k = false) : nameB s = false := by
  simp only [nameB, allUpto_miss (p := fun j => nmB (s.data.toList.getD j 0) j) hk h, Bool.false_and]
theorem nameB_end {s : ByteArray} (h : allUpto (fun j => nmB (s.data.toList.getD j 0) j) s.size = true) : nameB s = (decide (1 ≤ (s.size : Int)) && decide ((s.size : Int) ≤ 8)) := by
  simp only [nameB, h, Bool.true_and]
  congr 1
  · exact decide_eq_decide.2 (by omega)
  · exact decide_eq_decide.2 (by omega)

set_option maxHeartbeats 400000 in
theorem specName (s : ByteArray) (w : World) (hs : s.size ≤ maxLen) :
    Calls Try.prog 11 #[.string s] w fun e w' => e = .returned (.bool (nameB s)) ∧ w = w' := by
  unfold maxLen at hs
  go_enter Try.func11, Try.ntmps11
  go_wp2
  go_loop [3, 4] (fun i _ => ∃ k : Nat, k ≤ s.size ∧ i = .int .i64 k ∧ Hid (allUpto (fun j => nmB (s.data.toList.getD j 0) j) k = true)) (fun i _ => s.size - (intOf i).toNat)
  case atStart => exact ⟨0, Nat.zero_le _, rfl, rfl⟩
  case round =>
    obtain ⟨k, hk, rfl, hd⟩ := hrel
    by_cases hlt : k < s.size
    · have hg := Lib.hid (getD_at s k hlt)
      rcases name_cases s[k] k with ⟨h1, h2, h3⟩ | ⟨hs, h2 | ⟨h2, h3, h4, h5⟩ | ⟨h2, h3⟩⟩
      · have h3' := Lib.hid h3
        clear h3
        go_wp2
        exact ⟨⟨k + 1, by omega, by go_num, allUpto_snoc hd (by rw [hg.out]; exact h3'.out)⟩, by simp [intOf]; omega⟩
      · obtain ⟨h2, h3⟩ := h2
        have h3' := Lib.hid h3
        have hg' := Lib.hid (nameB_miss hlt (by rw [hg.out]; exact h3'.out))
        clear h3 hg h3'
        subst h2
        rcases hs with h | h
        · go_wp2
          go_ret
          exact ⟨ret_bool hg'.out.symm, rfl⟩
        · have hb : decide ((s[0].toNat : Int) ≤ 122) = false := decide_eq_false (by omega)
          have ha : 97 ≤ (s[0].toNat : Int) := by omega
          go_wp2
          go_ret
          exact ⟨ret_bool hg'.out.symm, rfl⟩
      · have h5' := Lib.hid h5
        have hk0 : ((k : Int) == 0) = false := by rw [beq_eq_false_iff_ne]; omega
        clear h5
        rcases hs with h | h
        · go_wp2
          exact ⟨⟨k + 1, by omega, by go_num, allUpto_snoc hd (by rw [hg.out]; exact h5'.out)⟩, by simp [intOf]; omega⟩
        · omega
      · have hg' := Lib.hid (nameB_miss hlt (by rw [hg.out]; exact h3.elim (·.2) (·.2)))
        have hk0 : ((k : Int) == 0) = false := by rw [beq_eq_false_iff_ne]; omega
        have h3' : (s[k].toNat : Int) < 48 ∨ 57 < (s[k].toNat : Int) := (by rcases h3 with h3 | h3; exact .inl h3.1; exact .inr h3.1)
        clear h3 hg
        rcases h3' with h3 | h3
        · have h97 : (s[k].toNat : Int) < 97 := by omega
          clear hs
          go_wp2
          go_ret
          exact ⟨ret_bool hg'.out.symm, rfl⟩
        · have h48 : 48 ≤ (s[k].toNat : Int) := by omega
          rcases hs with h | h
          · go_wp2
            go_ret
            exact ⟨ret_bool hg'.out.symm, rfl⟩
          · have hb : decide ((s[k].toNat : Int) ≤ 122) = false := decide_eq_false (by omega)
            have ha : 97 ≤ (s[k].toNat : Int) := by omega
            go_wp2
            go_ret
            exact ⟨ret_bool hg'.out.symm, rfl⟩
    · go_wp2_with (go_at_call 27; refine (specIn _ _ _ _).mono ?_; rintro e w' ⟨rfl, rfl⟩)
      go_ret
      exact ⟨ret_bool (nameB_end (by rw [show s.size = k by omega]; exact hd.out)).symm, rfl⟩

def smallR (r : Int) : Bool := decide (97 ≤ r) && decide (r ≤ 122)
def digR (r : Int) : Bool := decide (48 ≤ r) && decide (r ≤ 57)
set_option maxHeartbeats 400000 in
theorem implSmall (r : Int) (w : World) : Calls Try.prog 28 #[.int .i32 r] w fun e w' => e = .returned (.bool (smallR r)) ∧ w = w' := by
  go_enter Try.func28, Try.ntmps28
  go_wp2
  · go_ret
    have h : 97 ≤ r := by assumption
    exact ⟨ret_bool (by simp [smallR, h]), rfl⟩
  · go_ret
    have h : r < 97 := by assumption
    exact ⟨ret_bool (by simp only [smallR]; rw [decide_eq_false (p := 97 ≤ r) (by omega)]; rfl), rfl⟩
theorem implDig (r : Int) (w : World) : Calls Try.prog 26 #[.int .i32 r] w fun e w' => e = .returned (.bool (digR r)) ∧ w = w' := implDigit r w
/-- the rune at a place is a small letter or a digit exactly where the byte is -/
theorem rune_name (s : ByteArray) (k : Nat) (h : k < s.size) : nmB s[k] k = (smallR ((Utf8.decode s k).1 : Int) || (decide (0 < k) && digR ((Utf8.decode s k).1 : Int))) ∧
    (nmB s[k] k = true → (Utf8.decode s k).2 = 1) := by
  by_cases ha : (s[k]'h).toNat < 128
  · have e := decode_ascii s k h ha
    rw [e]
    exact ⟨rfl, fun _ => rfl⟩
  · have hh := (decode_high s k h (by omega)).1
    have e1 : nmB s[k] k = false := by
      rw [nmB_other (.inr (by omega)), digB_hi _ (by omega), Bool.and_false]
    have e2 : smallR ((Utf8.decode s k).1 : Int) = false := by simp only [smallR]; rw [decide_eq_false (p := ((Utf8.decode s k).1 : Int) ≤ 122) (by omega), Bool.and_false]
    have e3 : digR ((Utf8.decode s k).1 : Int) = false := by simp only [digR]; rw [decide_eq_false (p := ((Utf8.decode s k).1 : Int) ≤ 57) (by omega), Bool.and_false]
    refine ⟨by rw [e1, e2, e3]; simp, fun ht => by rw [e1] at ht; cases ht⟩

theorem empty_iff (s : ByteArray) : s.toList.isEmpty = true ↔ s.size = 0 := by
  have := nonempty_size s
  by_cases h0 : 0 < s.size
  · rw [decide_eq_true h0, Bool.not_eq_true'] at this
    rw [this]
    exact ⟨fun h => (by cases h), fun h => (by omega)⟩
  · rw [decide_eq_false h0, Bool.not_eq_false'] at this
    rw [this]
    exact ⟨fun _ => (by omega), fun _ => rfl⟩
theorem nameB_size {s : ByteArray} (h : s.size < 1 ∨ 8 < s.size) : nameB s = false := by
  simp only [nameB]
  rcases h with h | h
  · rw [decide_eq_false (p := 1 ≤ s.size) (by omega)]; simp
  · rw [decide_eq_false (p := s.size ≤ 8) (by omega)]; simp
theorem nameB_all {s : ByteArray} (h : allUpto (fun j => nmB (s.data.toList.getD j 0) j) s.size = true) (h1 : 1 ≤ s.size) (h8 : s.size ≤ 8) : nameB s = true := by
  simp only [nameB, h, decide_eq_true h1, decide_eq_true h8]; rfl

set_option maxHeartbeats 400000 in
theorem implName (s : ByteArray) (w : World) (hs : s.size ≤ maxLen) :
    Calls Try.prog 12 #[.string s] w fun e w' => e = .returned (.bool (nameB s)) ∧ Below w.heap.size w w' := by
  unfold maxLen at hs
  by_cases h0 : s.size = 0
  · have he : s.toList = [] := List.isEmpty_iff.1 ((empty_iff s).2 h0)
    have hn := Lib.hid (nameB_size (s := s) (.inl (by omega)))
    clear h0
    go_enter Try.func12, Try.ntmps12
    go_wp2
    go_ret
    exact ⟨ret_bool hn.out.symm, Below.refl _ _⟩
  have he : ¬ s.toList = [] := fun e => h0 ((empty_iff s).1 (by rw [e]; rfl))
  have he2 : s.toList.isEmpty = false := by rw [Bool.eq_false_iff]; intro e; exact h0 ((empty_iff s).1 e)
  have h1 : 1 ≤ s.size := by omega
  clear h0
  by_cases h8 : 8 < s.size
  · have hn := Lib.hid (nameB_size (s := s) (.inr h8))
    go_enter Try.func12, Try.ntmps12
    go_wp2
    go_ret
    exact ⟨ret_bool hn.out.symm, Below.refl _ _⟩
  have h8' : s.size ≤ 8 := by omega
  clear h8
  go_enter Try.func12, Try.ntmps12
  go_wp2
  go_loopw [] (fun w' => ∃ k : Nat, w' = w.iter s k ∧ k ≤ s.size ∧ Hid (allUpto (fun j => nmB (s.data.toList.getD j 0) j) k = true)) (fun w' => s.size - w'.iterPos w.heap.size)
  case atStart => exact ⟨0, rfl, Nat.zero_le _, Lib.hid rfl⟩
  case round =>
    obtain ⟨k, rfl, hle, hd⟩ := hrel
    by_cases hp : k < s.size
    · have hnx : ∀ ty, (Instr.next (.pointer (some ⟨w.heap.size, 0, none⟩)) true ty).run Try.prog (w.iter s k) = _ := fun ty => run_next_any w s k ty hp
      obtain ⟨hnm0, hw0⟩ := rune_name s k hp
      have hnm := Lib.hid hnm0
      have hw1 := Lib.hid hw0
      have hg := Lib.hid (getD_at s k hp)
      clear hnm0 hw0
      go_wp2_with (first | (go_at_call 28; refine (implSmall _ _).mono ?_; rintro e w' ⟨rfl, rfl⟩) | (go_at_call 26; refine (implDig _ _).mono ?_; rintro e w' ⟨rfl, rfl⟩))
      · have hsm : smallR ((Utf8.decode s k).1 : Int) = true := by assumption
        have ht : nmB s[k] k = true := by rw [hnm.out, hsm]; rfl
        rw [hw1.out ht]
        exact ⟨⟨k + 1, rfl, by omega, allUpto_snoc hd (by rw [hg.out]; exact ht)⟩, by simp; omega⟩
      · have hsm : ¬ smallR ((Utf8.decode s k).1 : Int) = true := by assumption
        have hk : k = 0 := by assumption
        have hf : nmB s[k] k = false := by rw [hnm.out, Bool.eq_false_iff.2 hsm, decide_eq_false (by omega)]; rfl
        go_ret
        exact ⟨ret_bool (nameB_miss hp (by rw [hg.out]; exact hf)).symm, below_iter _ _ _⟩
      · have hsm : ¬ smallR ((Utf8.decode s k).1 : Int) = true := by assumption
        have hd2 : ((k : Int) == 0) = true ∨ (!digR ((Utf8.decode s k).1 : Int)) = true := by assumption
        have hk : ¬ k = 0 := by assumption
        have hf : nmB s[k] k = false := by
          rw [hnm.out, Bool.eq_false_iff.2 hsm]
          rcases hd2 with h | h
          · rw [beq_iff_eq] at h; omega
          · rw [Bool.not_eq_true'] at h; rw [h, Bool.and_false]; rfl
        go_ret
        exact ⟨ret_bool (nameB_miss hp (by rw [hg.out]; exact hf)).symm, below_iter _ _ _⟩
      · have hd2 : ((k : Int) == 0) = false ∧ (!digR ((Utf8.decode s k).1 : Int)) = false := by assumption
        have hk : ¬ k = 0 := by assumption
        have hdg := hd2.2
        rw [Bool.not_eq_false'] at hdg
        have ht : nmB s[k] k = true := by rw [hnm.out, hdg, decide_eq_true (by omega)]; simp
        rw [hw1.out ht]
        exact ⟨⟨k + 1, rfl, by omega, allUpto_snoc hd (by rw [hg.out]; exact ht)⟩, by simp; omega⟩
    · have hnx : ∀ ty, (Instr.next (.pointer (some ⟨w.heap.size, 0, none⟩)) true ty).run Try.prog (w.iter s k) = _ := fun ty => run_next_end w s k ty hp
      have hn := Lib.hid (nameB_all (s := s) (by rw [show s.size = k by omega]; exact hd.out) h1 h8')
      go_wp2
      go_ret
      exact ⟨ret_bool hn.out.symm, below_iter _ _ _⟩

set_option maxHeartbeats 400000 in
theorem lawName (s : ByteArray) (w : World) (hs : s.size ≤ maxLen) :
    Calls Try.prog 4 #[.string s] w fun e w' => e = .returned (.bool true) ∧ Below w.heap.size w w' := by
  unfold maxLen at hs
  go_enter Try.func4, Try.ntmps4
  go_wp2_with (first | (go_at_call 11; refine (specName _ _ (by unfold maxLen; omega)).mono ?_; rintro e w' ⟨rfl, rfl⟩) | (go_at_call 12; refine (implName _ _ (by unfold maxLen; omega)).mono ?_; rintro e w1 ⟨rfl, hb⟩))
  · go_ret
    exact ⟨rfl, Below.refl _ _⟩
  · go_ret
    exact ⟨rfl, hb⟩
end Go.Proofs.Ytijmenmmijkpbaa
