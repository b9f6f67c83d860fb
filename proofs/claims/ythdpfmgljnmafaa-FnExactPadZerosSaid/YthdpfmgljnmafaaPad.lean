/- The two functions that pad a string with zeros, the specification's and the program's, answer alike: one plain function of the bytes and the number. -/
import Derived.Test.YthdpfmgljnmafaaRows
import Derived.Test.YthdpfmgljnmafaaShRepeat
import Derived.WalkKit
import Derived.WalkSpells
import Derived.WalkLawsBesides
import Derived.Laws.Concat
import Derived.Lib.RepeatB
import Derived.Lib.Hide
namespace Go.Proofs.Ythdpfmgljnmafaa
open Go.RowKit

def zs (k : Nat) (s : ByteArray) : ByteArray := ⟨(List.replicate k 48 ++ s.data.toList).toArray⟩
def padB (s : ByteArray) (n : Int) : ByteArray := if 2000 < n then s else zs (n - s.size).toNat s

theorem zs_zero (s : ByteArray) : zs 0 s = s := by
  unfold zs
  apply ByteArray.ext
  simp
def strSize : Value → Nat
  | .string t => t.size
  | _ => 0
theorem zs_size (k : Nat) (s : ByteArray) : (zs k s).size = k + s.size := by
  show (List.replicate k 48 ++ s.data.toList).toArray.size = _
  rw [List.size_toArray, List.length_append, List.length_replicate, Array.length_toList]
  rfl
theorem zs_succ (k : Nat) (s : ByteArray) : (⟨#[48]⟩ : ByteArray) ++ zs k s = zs (k + 1) s := by
  show (ByteArray.mk [48].toArray ++ ByteArray.mk (List.replicate k 48 ++ s.data.toList).toArray) = _
  rw [ByteArray.mk_append_mk]
  rfl
theorem padB_big {s : ByteArray} {n : Int} (h : 2000 < n) : padB s n = s := by rw [padB, if_pos h]
theorem padB_short {s : ByteArray} {n : Int} (h : n ≤ s.size) : padB s n = s := by
  by_cases h2 : 2000 < n
  · exact padB_big h2
  · rw [padB, if_neg h2, show (n - s.size).toNat = 0 by omega, zs_zero]
theorem padB_zs {s : ByteArray} {n : Int} {k : Nat} (h2 : n ≤ 2000) (h : (s.size : Int) + k = n) : padB s n = zs k s := by
  rw [padB, if_neg (by omega), show (n - s.size).toNat = k by omega]
theorem ret_string {a b : ByteArray} (h : a = b) : Ending.returned (.string a) = .returned (.string b) := by rw [h]

set_option maxHeartbeats 400000 in
theorem specPad (s : ByteArray) (n : Int) (w : World) (hs : s.size ≤ 1048576) (hlo : -9223372036854775808 ≤ n) (hhi : n ≤ 9223372036854775807) :
    Calls Try.prog 32 #[.string s, .int .i64 n] w fun e w' => e = .returned (.string (padB s n)) ∧ w = w' := by
  by_cases h2 : 2000 < n
  · have H := Lib.hid (padB_big (s := s) h2)
    go_enter Try.func32, Try.ntmps32
    go_wp2
    go_ret
    exact ⟨ret_string H.out.symm, rfl⟩
  · have h2' : n ≤ 2000 := by omega
    clear h2
    go_enter Try.func32, Try.ntmps32
    go_wp2
    go_loop [0] (fun v => ∃ k : Nat, v = .string (zs k s) ∧ (k = 0 ∨ (k : Int) + s.size ≤ n)) (fun v => (n - strSize v).toNat)
    case atStart => exact ⟨0, by rw [zs_zero], .inl rfl⟩
    case round =>
      obtain ⟨k, rfl, hk⟩ := hrel
      have hz := zs_size k s
      have hsz : ((zs k s).size : Int) ≤ 1050576 := by rw [hz]; rcases hk with h | h <;> omega
      by_cases hlt : ((zs k s).size : Int) < n
      · have hk1 : (k : Int) + 1 + s.size ≤ n := by rw [hz] at hlt; omega
        have Z := Lib.hid (zs_succ k s)
        have HZ := Lib.hid hz
        clear hz hk
        go_wp2
        rw [Z.out]
        refine ⟨⟨k + 1, rfl, .inr (by omega)⟩, ?_⟩
        have hz1 := zs_size (k + 1) s
        have hz := HZ.out
        simp only [strSize]
        omega
      · have hpad : padB s n = zs k s := by
          rcases hk with h | h
          · subst h
            rw [zs_zero] at hlt ⊢
            exact padB_short (by omega)
          · rw [hz] at hlt
            exact padB_zs h2' (by omega)
        have HP := Lib.hid hpad
        clear hpad hz hk
        go_wp2
        go_ret
        exact ⟨ret_string HP.out.symm, rfl⟩

theorem padB_mid {s : ByteArray} {n : Int} (h2 : n ≤ 2000) : (⟨(Lib.repeatL [48] (n - s.size).toNat).toArray⟩ : ByteArray) ++ s = padB s n := by
  have e : Lib.repeatL [48] (n - s.size).toNat = List.replicate (n - s.size).toNat 48 := by
    generalize (n - s.size).toNat = k
    induction k with
    | zero => rfl
    | succ k ih => simp [Lib.repeatL, ih, List.replicate_succ]
  rw [e, padB, if_neg (by omega)]
  show (ByteArray.mk _ ++ ByteArray.mk s.data.toList.toArray) = _
  rw [ByteArray.mk_append_mk]
  rfl

set_option maxHeartbeats 400000 in
theorem implPad (s : ByteArray) (n : Int) (w : World) (hs : s.size ≤ 1048576) (hlo : -9223372036854775808 ≤ n) (hhi : n ≤ 9223372036854775807) :
    Calls Try.prog 33 #[.string s, .int .i64 n] w fun e w' => e = .returned (.string (padB s n)) ∧ Below w.heap.size w w' := by
  by_cases h1 : n ≤ (s.size : Int)
  · have H := Lib.hid (padB_short h1)
    go_enter Try.func33, Try.ntmps33
    go_wp2
    go_ret
    exact ⟨ret_string H.out.symm, Below.refl _ _⟩
  by_cases h2 : 2000 < n
  · have H := Lib.hid (padB_big (s := s) h2)
    have h1' : (s.size : Int) < n := by omega
    clear h1
    go_enter Try.func33, Try.ntmps33
    go_wp2
    go_ret
    exact ⟨ret_string H.out.symm, Below.refl _ _⟩
  have h1' : (s.size : Int) < n := by omega
  have h2' : n ≤ 2000 := by omega
  clear h1 h2
  obtain ⟨c, hc⟩ : ∃ c : Nat, (n - s.size).toNat = c := ⟨_, rfl⟩
  have hc1 : n - (s.size : Int) = c := by omega
  have hc2 : c ≤ 2000 := by omega
  have H := Lib.hid (padB_mid (s := s) h2')
  rw [hc] at H
  have HC := Lib.hid hc1
  clear hc hc1
  have hrep := Try.strings_Repeat ⟨#[48]⟩ c w (by omega) (by show 1 * c ≤ _; omega)
  have HR := Lib.hid hrep
  clear hrep
  have hlen : (Lib.repeatL [48] c).length + s.size ≤ 9223372036854775807 := by rw [Lib.repeatL_length]; simp only [List.length_cons, List.length_nil]; omega
  go_enter Try.func33, Try.ntmps33
  go_wp2_with fail
  rw [HC.out]
  refine HR.out.mono ?_
  rintro e w1 ⟨rfl, hb⟩
  go_wp2
  go_ret
  exact ⟨ret_string H.out, hb⟩

set_option maxHeartbeats 400000 in
theorem lawPad (s : ByteArray) (n : Int) (w : World) (hs : s.size ≤ maxLen) (hlo : -9223372036854775808 ≤ n) (hhi : n ≤ 9223372036854775807) :
    Calls Try.prog 7 #[.string s, .int .i64 n] w fun e w' => e = .returned (.bool true) ∧ Below w.heap.size w w' := by
  unfold maxLen at hs
  by_cases hbig : 1048576 < s.size
  · go_enter Try.func7, Try.ntmps7
    go_wp2
    go_ret
    exact ⟨rfl, Below.refl _ _⟩
  · have hb : s.size ≤ 1048576 := by omega
    clear hbig
    go_enter Try.func7, Try.ntmps7
    go_wp2_with (first | (go_at_call 32; refine (specPad _ _ _ hb hlo hhi).mono ?_; rintro e w' ⟨rfl, rfl⟩) | (go_at_call 33; refine (implPad _ _ _ hb hlo hhi).mono ?_; rintro e w1 ⟨rfl, hb1⟩))
    go_ret
    exact ⟨rfl, hb1⟩
end Go.Proofs.Ythdpfmgljnmafaa
