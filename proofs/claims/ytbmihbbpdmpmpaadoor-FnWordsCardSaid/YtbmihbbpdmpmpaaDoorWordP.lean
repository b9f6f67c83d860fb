/- Plain: what is cut at a byte and joined with it again is the same; how much is cut off. -/
import Derived.Test.YtbmihbbpdmpmpaaDoorW0
namespace Go.Proofs.YtbmihbbpdmpmpaaDoor

def sp : ByteArray := ⟨#[32]⟩
theorem list_len (s : ByteArray) : s.data.toList.length = s.size := Array.length_toList
theorem ext_list (s : ByteArray) (a b : Nat) : (s.extract a b).data.toList = (s.data.toList.take b).drop a := by
  rw [ByteArray.data_extract, Array.toList_extract, List.extract_eq_take_drop, List.drop_take]
theorem occ_sp (c : UInt8) : occ sp c = true ↔ c = 32 := by
  unfold occ sp
  simp
theorem bl_snoc (p : List ByteArray) (x : ByteArray) : bl (p ++ [x]) = bl p ++ [x.data.toList] := by simp [bl]
theorem inter_one (x : List UInt8) : List.intercalate [(32 : UInt8)] [x] = x := by simp [List.intercalate]
theorem inter_grow (l : List (List UInt8)) (x y : List UInt8) : List.intercalate [(32 : UInt8)] (l ++ [x ++ y]) = List.intercalate [32] (l ++ [x]) ++ y := by
  by_cases h : l = []
  · subst h
    rw [List.nil_append, List.nil_append, inter_one, inter_one]
  · rw [inter_snoc _ _ _ h, inter_snoc _ _ _ h, List.append_assoc, List.append_assoc, List.append_assoc]
theorem cut_join (s : ByteArray) : ∀ i, i ≤ s.size → List.intercalate [(32 : UInt8)] (bl (cutSt s sp i).1 ++ [(s.data.toList.take i).drop (cutSt s sp i).2]) = s.data.toList.take i
  | 0, _ => by
    rw [cutSt]
    simp [bl, List.intercalate]
  | i + 1, h => by
    have ih := cut_join s i (by omega)
    have hle := (cutSt_le s sp i).1
    have hl := list_len s
    have hi : i < s.data.toList.length := by omega
    have hi2 : i < s.size := by omega
    have hg : s.data.getD i 0 = s.data.toList[i] := by simp [Array.getD, hi2]
    have ht : s.data.toList.take (i + 1) = s.data.toList.take i ++ [s.data.toList[i]] := by rw [List.take_add_one, List.getElem?_eq_getElem hi]; rfl
    rw [cutSt, hg]
    by_cases ho : occ sp s.data.toList[i] = true
    · rw [if_pos ho]
      have hc := (occ_sp _).1 ho
      simp only
      rw [bl_snoc, ext_list, inter_snoc _ _ _ (by simp), ih, List.drop_of_length_le (by rw [List.length_take]; omega), ht, hc, List.append_nil]
    · rw [if_neg ho, ht, List.drop_append_of_le_length (by rw [List.length_take]; omega), inter_grow, ih]
theorem join_split (s : ByteArray) : joinB (splitB s sp) sp = s := by
  have h := cut_join s s.size (Nat.le_refl _)
  have hl := list_len s
  have e : bl (splitB s sp) = bl (cutSt s sp s.size).1 ++ [(s.data.toList.take s.size).drop (cutSt s sp s.size).2] := by
    rw [splitB, bl_snoc, ext_list]
  unfold joinB Lib.join
  rw [e]
  show ByteArray.mk (List.intercalate [(32 : UInt8)] _).toArray = s
  rw [h, List.take_of_length_le (by omega)]
theorem cut_sizes (s b : ByteArray) : ∀ i, i ≤ s.size → sizes (cutSt s b i).1 ≤ (cutSt s b i).2
  | 0, _ => Nat.le_refl _
  | i + 1, h => by
    have ih := cut_sizes s b i (by omega)
    have hle := (cutSt_le s b i).1
    rw [cutSt]
    split
    · simp only
      rw [sizes_append]
      simp only [sizes, ByteArray.size_extract]
      omega
    · exact ih
theorem split_sizes (s b : ByteArray) : (splitB s b).length + sizes (splitB s b) ≤ 2 * s.size + 1 := by
  have h1 := cut_sizes s b s.size (Nat.le_refl _)
  have h2 := cutSt_le s b s.size
  rw [splitB, List.length_append, sizes_append]
  simp only [sizes, ByteArray.size_extract, List.length_singleton]
  omega
theorem name_x1 : nameB ⟨#[120, 49]⟩ = true := by decide +kernel
theorem lines_ab : (linesB ⟨#[97, 10, 98, 10]⟩).length = 2 := by decide +kernel
end Go.Proofs.YtbmihbbpdmpmpaaDoor
