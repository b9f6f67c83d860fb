/- SplitLines: both sides. -/
import Derived.Test.YtbmihbbpdmpmpaaSplitP
namespace Go.Proofs.Ytbmihbbpdmpmpaa
open Go.RowKit

def nl : ByteArray := ⟨#[10]⟩
def linesB (s : ByteArray) : List ByteArray := if (splitB s nl)[(splitB s nl).length - 1]? = some ⟨#[]⟩ then (splitB s nl).take ((splitB s nl).length - 1) else splitB s nl
theorem splitB_pos (s b : ByteArray) : 0 < (splitB s b).length := by rw [splitB, List.length_append, List.length_singleton]; omega
theorem linesB_len {s : ByteArray} (h : s.size ≤ 1048576) : (linesB s).length ≤ 2000000 := by
  have := splitB_len (b := nl) h
  unfold linesB
  split
  · rw [List.length_take]; omega
  · exact this
theorem OwnT.take_ {w : World} {base : Nat} {A : Option Addr} {l : List ByteArray} (h : OwnT w base A l) (n : Nat) : OwnT w base A (l.take n) := fun hn => by
  rw [List.length_take] at hn
  obtain ⟨g, off, e, h1, h2, h3⟩ := h (by omega)
  refine ⟨g, off, e, h1, h2, fun i z hz => h3 i z ?_⟩
  have hi : i < n := by
    have := (List.getElem?_eq_some_iff.1 hz).1
    rw [List.length_take] at this
    omega
  rwa [List.getElem?_take_of_lt hi] at hz

set_option maxRecDepth 100000 in
set_option maxHeartbeats 1000000 in
theorem specLines (s : ByteArray) (w : World) (hs : s.size ≤ 1048576) :
    Calls Try.prog 39 #[.string s] w (GivesT w (linesB s)) := by
  have HC := fun w => Lib.hid (specSplit s ⟨#[10]⟩ w hs (by decide))
  have hl := splitB_len (b := nl) hs
  have hp := splitB_pos s nl
  obtain ⟨z, hz⟩ : ∃ z, (splitB s nl)[(splitB s nl).length - 1]? = some z := ⟨_, List.getElem?_eq_getElem (by omega)⟩
  have HZ := Lib.hid hz
  by_cases h0 : z = ⟨#[]⟩
  · have HL := Lib.hid (show linesB s = (splitB s nl).take ((splitB s nl).length - 1) by rw [linesB, if_pos (by rw [hz, h0])])
    obtain ⟨zs, hzs⟩ : ∃ zs, zs = splitB s nl := ⟨_, rfl⟩
    have hzs2 : zs = splitB s ⟨#[10]⟩ := hzs
    rw [← hzs2] at HC
    rw [← hzs] at HL HZ hl hp
    rw [HL.out]
    have HLL := Lib.hid (show (zs.take (zs.length - 1)).length = zs.length - 1 by rw [List.length_take]; omega)
    clear hz hzs hzs2
    subst h0
    go_enter Try.func39, Try.ntmps39
    go_wp2_with fail
    refine (HC _).out.mono ?_
    rintro e w1 ⟨A1, c1, rfl, hcap, ho, hb⟩
    obtain ⟨g, off, rfl, hg1, hg2, hc⟩ := ho hp
    have hcl := (hc _ _ HZ.out).1
    have HO := Lib.hid ho
    have hz0 : (1 : Int) ≤ (zs.length : Int) := by omega
    have hz1 : (zs.length : Int) - 1 < (zs.length : Int) := by omega
    have hz2 : ((zs.length : Int) - 1).toNat = zs.length - 1 := by omega
    have hz3 : (zs.length : Int) - 1 ≤ (c1 : Int) := by omega
    clear hc ho
    go_wp2
    go_ret
    exact ⟨some ⟨g, off, none⟩, c1, by rw [HLL.out]; rfl, HO.out.take_ _, hb⟩
  · have HL := Lib.hid (show linesB s = splitB s nl by rw [linesB, if_neg (by rw [hz]; simpa using h0)])
    have ht : (z.toList == ([] : List UInt8)) = false := by
      rw [beq_eq_false_iff_ne]
      intro e
      exact h0 (same_bytes (by rw [e, ByteArray.toList_eq]; rfl))
    obtain ⟨zs, hzs⟩ : ∃ zs, zs = splitB s nl := ⟨_, rfl⟩
    have hzs2 : zs = splitB s ⟨#[10]⟩ := hzs
    rw [← hzs2] at HC
    rw [← hzs] at HL HZ hl hp
    rw [HL.out]
    clear hz hzs hzs2 h0
    go_enter Try.func39, Try.ntmps39
    go_wp2_with fail
    refine (HC _).out.mono ?_
    rintro e w1 ⟨A1, c1, rfl, hcap, ho, hb⟩
    obtain ⟨g, off, rfl, hg1, hg2, hc⟩ := ho hp
    have hcl := (hc _ _ HZ.out).1
    have HO := Lib.hid ho
    have hz0 : (1 : Int) ≤ (zs.length : Int) := by omega
    have hz1 : (zs.length : Int) - 1 < (zs.length : Int) := by omega
    have hz2 : ((zs.length : Int) - 1).toNat = zs.length - 1 := by omega
    clear hc ho
    go_wp2
    go_ret
    exact ⟨some ⟨g, off, none⟩, c1, rfl, HO.out, hb⟩
set_option maxRecDepth 100000 in
set_option maxHeartbeats 1000000 in
theorem implLines (s : ByteArray) (w : World) (hs : s.size ≤ 1048576) :
    Calls Try.prog 40 #[.string s] w (GivesT w (linesB s)) := by
  have HC := fun w => Lib.hid (implSplit s ⟨#[10]⟩ w hs (by decide))
  have hl := splitB_len (b := nl) hs
  have hp := splitB_pos s nl
  obtain ⟨z, hz⟩ : ∃ z, (splitB s nl)[(splitB s nl).length - 1]? = some z := ⟨_, List.getElem?_eq_getElem (by omega)⟩
  have HZ := Lib.hid hz
  by_cases h0 : z = ⟨#[]⟩
  · have HL := Lib.hid (show linesB s = (splitB s nl).take ((splitB s nl).length - 1) by rw [linesB, if_pos (by rw [hz, h0])])
    obtain ⟨zs, hzs⟩ : ∃ zs, zs = splitB s nl := ⟨_, rfl⟩
    have hzs2 : zs = splitB s ⟨#[10]⟩ := hzs
    rw [← hzs2] at HC
    rw [← hzs] at HL HZ hl hp
    rw [HL.out]
    have HLL := Lib.hid (show (zs.take (zs.length - 1)).length = zs.length - 1 by rw [List.length_take]; omega)
    clear hz hzs hzs2
    subst h0
    go_enter Try.func40, Try.ntmps40
    go_wp2_with fail
    refine (HC _).out.mono ?_
    rintro e w1 ⟨A1, c1, rfl, hcap, ho, hb⟩
    obtain ⟨g, off, rfl, hg1, hg2, hc⟩ := ho hp
    have hcl := (hc _ _ HZ.out).1
    have HO := Lib.hid ho
    have hz0 : (1 : Int) ≤ (zs.length : Int) := by omega
    have hz1 : (zs.length : Int) - 1 < (zs.length : Int) := by omega
    have hz2 : ((zs.length : Int) - 1).toNat = zs.length - 1 := by omega
    have hz3 : (zs.length : Int) - 1 ≤ (c1 : Int) := by omega
    clear hc ho
    go_wp2
    go_ret
    exact ⟨some ⟨g, off, none⟩, c1, by rw [HLL.out]; rfl, HO.out.take_ _, hb⟩
  · have HL := Lib.hid (show linesB s = splitB s nl by rw [linesB, if_neg (by rw [hz]; simpa using h0)])
    have ht : (z.toList == ([] : List UInt8)) = false := by
      rw [beq_eq_false_iff_ne]
      intro e
      exact h0 (same_bytes (by rw [e, ByteArray.toList_eq]; rfl))
    obtain ⟨zs, hzs⟩ : ∃ zs, zs = splitB s nl := ⟨_, rfl⟩
    have hzs2 : zs = splitB s ⟨#[10]⟩ := hzs
    rw [← hzs2] at HC
    rw [← hzs] at HL HZ hl hp
    rw [HL.out]
    clear hz hzs hzs2 h0
    go_enter Try.func40, Try.ntmps40
    go_wp2_with fail
    refine (HC _).out.mono ?_
    rintro e w1 ⟨A1, c1, rfl, hcap, ho, hb⟩
    obtain ⟨g, off, rfl, hg1, hg2, hc⟩ := ho hp
    have hcl := (hc _ _ HZ.out).1
    have HO := Lib.hid ho
    have hz0 : (1 : Int) ≤ (zs.length : Int) := by omega
    have hz1 : (zs.length : Int) - 1 < (zs.length : Int) := by omega
    have hz2 : ((zs.length : Int) - 1).toNat = zs.length - 1 := by omega
    clear hc ho
    go_wp2
    go_ret
    exact ⟨some ⟨g, off, none⟩, c1, rfl, HO.out, hb⟩
end Go.Proofs.Ytbmihbbpdmpmpaa
