/- Join: the specification's loop and the library's builder give one plain list of bytes. -/
import Derived.Test.YthdpfmgljnmafaaStrs
import Derived.Test.YthdpfmgljnmafaaShJoin
import Derived.Lib.Join
namespace Go.Proofs.Ythdpfmgljnmafaa
open Go.RowKit

def bl (xs : List ByteArray) : List (List UInt8) := xs.map (·.data.toList)
def joinB (xs : List ByteArray) (sep : ByteArray) : ByteArray := ⟨(Lib.join (bl xs) sep.data.toList).toArray⟩
theorem inter_snoc (sep x : List UInt8) : ∀ l : List (List UInt8), l ≠ [] → List.intercalate sep (l ++ [x]) = List.intercalate sep l ++ sep ++ x
  | [a], _ => by simp [List.intercalate]
  | a :: b :: l, _ => by
    have h := inter_snoc sep x (b :: l) (by simp)
    simp only [List.intercalate, List.cons_append, List.intersperse_cons_cons, List.flatten_cons] at h ⊢
    rw [h]
    simp [List.append_assoc]
theorem join_snoc {xs : List ByteArray} {sep x : ByteArray} {k : Nat} (hk : 0 < k) (he : xs[k]? = some x) : joinB (xs.take (k + 1)) sep = joinB (xs.take k) sep ++ sep ++ x := by
  have hne : bl (xs.take k) ≠ [] := by
    have hl : k < xs.length := (List.getElem?_eq_some_iff.1 he).1
    have hl2 : (bl (xs.take k)).length = k := by simp only [bl, List.length_map, List.length_take]; omega
    intro h
    rw [h] at hl2
    simp at hl2
    omega
  unfold joinB
  rw [List.take_add_one, he]
  have e1 : bl (xs.take k ++ (some x).toList) = bl (xs.take k) ++ [x.data.toList] := by simp [bl]
  rw [e1]
  show _ = ByteArray.mk _ ++ ByteArray.mk sep.data.toList.toArray ++ ByteArray.mk x.data.toList.toArray
  rw [ByteArray.mk_append_mk, ByteArray.mk_append_mk, Lib.join, inter_snoc _ _ _ hne]
  rfl
theorem join_first {xs : List ByteArray} {sep x : ByteArray} (he : xs[0]? = some x) : joinB (xs.take 1) sep = x := by
  unfold joinB
  rw [List.take_add_one, he]
  simp [bl, Lib.join, List.intercalate]
theorem join_first' {xs : List ByteArray} {sep x : ByteArray} {k : Nat} (hk : k ≤ 0) (he : xs[k]? = some x) : joinB (xs.take (k + 1)) sep = joinB (xs.take k) sep ++ x := by
  obtain rfl : k = 0 := by omega
  rw [join_first he]
  have : joinB (xs.take 0) sep = ⟨#[]⟩ := by rw [List.take_zero]; rfl
  rw [this]
  apply ByteArray.ext
  simp
theorem join_size {xs : List ByteArray} {sep : ByteArray} : ∀ k : Nat, k ≤ xs.length → (joinB (xs.take k) sep).size ≤ sizes (xs.take k) + k * sep.size
  | 0, _ => by
    have : joinB (xs.take 0) sep = ⟨#[]⟩ := by rw [List.take_zero]; rfl
    rw [this]
    exact Nat.zero_le _
  | k + 1, h => by
    have he : xs[k]? = some xs[k] := List.getElem?_eq_getElem (by omega)
    have ih := join_size (xs := xs) (sep := sep) k (by omega)
    rw [sizes_snoc he, Nat.add_mul]
    by_cases hk : 0 < k
    · rw [join_snoc hk he, ByteArray.size_append', ByteArray.size_append']
      omega
    · obtain rfl : k = 0 := by omega
      rw [join_first he]
      omega
theorem join_small {xs : List ByteArray} {sep : ByteArray} (hs : sep.size ≤ 1048576) (hx : xs.length + sizes xs ≤ 1048576) (k : Nat) (hk : k ≤ xs.length) : (joinB (xs.take k) sep).size ≤ 1099512676352 := by
  have h1 := join_size (sep := sep) k hk
  have h2 := sizes_take_le xs k
  have h3 : k * sep.size ≤ 1048576 * 1048576 := Nat.mul_le_mul (by omega) hs
  omega
theorem ret_stringJ {a b : ByteArray} (h : a = b) : Ending.returned (.string a) = .returned (.string b) := by rw [h]

set_option maxHeartbeats 1000000 in
theorem specJoin (A : Option Addr) (c : Nat) (xs : List ByteArray) (sep : ByteArray) (w : World) (hsep : sep.size ≤ 1048576) (hx : xs.length + sizes xs ≤ 1048576) (hS : StrS w w.heap.size A xs) :
    Calls Try.prog 29 #[.slice A xs.length c, .string sep] w fun e w' => e = .returned (.string (joinB xs sep)) ∧ w = w' := by
  have HS := Lib.hid hS
  clear hS
  have hl1 : xs.length ≤ 1048576 := by omega
  go_enter Try.func29, Try.ntmps29
  go_wp2
  go_loop [5, 10] (fun s i => ∃ k : Nat, k ≤ xs.length ∧ i = .int .i64 k ∧ s = .string (joinB (xs.take k) sep)) (fun _ i => xs.length - (intOf i).toNat)
  case atStart => exact ⟨0, Nat.zero_le _, rfl, rfl⟩
  case round =>
    obtain ⟨k, hk, rfl, rfl⟩ := hrel
    have hsz := join_small hsep hx k hk
    by_cases hlt : k < xs.length
    · obtain ⟨b1, o1, x, rfl, hb1, he, hc0⟩ := HS.out.at_ hlt
      have hi0 : (0 : Int) ≤ (k : Int) := Int.natCast_nonneg _
      have hi1 : (k : Int) < (xs.length : Int) := by omega
      have hxs : x.size ≤ 1048576 := by
        have h1 := sizes_snoc he
        have h2 := sizes_take_le xs (k + 1)
        omega
      by_cases hk0 : 0 < k
      · have H := Lib.hid (join_snoc (sep := sep) hk0 he)
        clear he
        go_wp2
        exact ⟨⟨k + 1, by omega, by go_num, by rw [H.out]⟩, by simp [intOf]; omega⟩
      · have hk1 : k ≤ 0 := by omega
        have H := Lib.hid (join_first' (sep := sep) hk1 he)
        clear he hk0
        go_wp2
        exact ⟨⟨k + 1, by omega, by go_num, by rw [H.out]⟩, by simp [intOf]; omega⟩
    · have H := Lib.hid (show joinB (xs.take k) sep = joinB xs sep by rw [List.take_of_length_le (by omega)])
      go_wp2
      go_ret
      exact ⟨ret_stringJ H.out, rfl⟩
set_option maxHeartbeats 400000 in
theorem joinWith_any (A : Option Addr) (c : Nat) (xs : List ByteArray) (sep : ByteArray) (w : World) (hsep : sep.size ≤ 1048576) (hx : xs.length + sizes xs ≤ 1048576) (hc : xs.length ≤ c) (hS : StrS w w.heap.size A xs) :
    Calls Try.prog 57 #[.string sep, .slice A xs.length c] w fun e w' => e = .returned (.string (joinB xs sep)) ∧ Below w.heap.size w w' := by
  by_cases h0 : 0 < xs.length
  · obtain ⟨b, off, rfl, hb, hcell⟩ := hS h0
    have hlen : (Lib.join (xs.map (·.data.toList)) sep.data.toList).length ≤ 140737488355328 := by
      have h1 := join_small hsep hx xs.length (Nat.le_refl _)
      rw [List.take_length] at h1
      have h2 : (joinB xs sep).size = (Lib.join (xs.map (·.data.toList)) sep.data.toList).length := by
        show (Lib.join (bl xs) sep.data.toList).toArray.size = _
        rw [List.size_toArray]
        rfl
      omega
    have hj := Try.strings_Join b off c xs sep w hcell hb (by omega) hc hlen
    have HJ := Lib.hid hj
    clear hj hcell hlen
    go_enter Try.func57, Try.ntmps57
    go_wp2_with (go_at_call 73; refine HJ.out.mono ?_; rintro e w1 ⟨rfl, hb1⟩)
    go_ret
    exact ⟨rfl, hb1⟩
  · obtain rfl : xs = [] := by
      cases xs with
      | nil => rfl
      | cons a l => simp at h0
    have hj := Try.strings_Join_none A c sep w
    have HJ := Lib.hid hj
    clear hj h0
    go_enter Try.func57, Try.ntmps57
    go_wp2_with (go_at_call 73; refine HJ.out.mono ?_; rintro e w1 ⟨rfl, rfl⟩)
    go_ret
    exact ⟨rfl, Below.refl _ _⟩
set_option maxHeartbeats 400000 in
theorem implJoin (A : Option Addr) (c : Nat) (xs : List ByteArray) (sep : ByteArray) (w : World) (hsep : sep.size ≤ 1048576) (hx : xs.length + sizes xs ≤ 1048576) (hc : xs.length ≤ c) (hS : StrS w w.heap.size A xs) :
    Calls Try.prog 31 #[.slice A xs.length c, .string sep] w fun e w' => e = .returned (.string (joinB xs sep)) ∧ Below w.heap.size w w' := by
  have HJ := Lib.hid (joinWith_any A c xs sep w hsep hx hc hS)
  clear hS
  go_enter Try.func31, Try.ntmps31
  go_wp2_with (go_at_call 57; refine HJ.out.mono ?_; rintro e w1 ⟨rfl, hb1⟩)
  go_ret
  exact ⟨rfl, hb1⟩
end Go.Proofs.Ythdpfmgljnmafaa
