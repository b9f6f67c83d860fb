/- SplitAny: the plain function; the program's side. -/
import Derived.Test.YtbmihbbpdmpmpaaStrB
import Derived.Test.YtbmihbbpdmpmpaaCell1
import Derived.Test.YtbmihbbpdmpmpaaMarkS
namespace Go.Proofs.Ytbmihbbpdmpmpaa
open Go.RowKit

/-- whether the byte c occurs in b -/
def occ (b : ByteArray) (c : UInt8) : Bool := b.data.toList.contains c
/-- the parts cut off, and where the next one starts, once i bytes are through -/
def cutSt (s b : ByteArray) : Nat → List ByteArray × Nat
  | 0 => ([], 0)
  | i + 1 => if occ b (s.data.getD i 0) = true then ((cutSt s b i).1 ++ [s.extract (cutSt s b i).2 i], i + 1) else cutSt s b i
def splitB (s b : ByteArray) : List ByteArray := (cutSt s b s.size).1 ++ [s.extract (cutSt s b s.size).2 s.size]
theorem cutSt_le (s b : ByteArray) : ∀ i, (cutSt s b i).2 ≤ i ∧ (cutSt s b i).1.length ≤ i
  | 0 => ⟨Nat.le_refl _, Nat.le_refl _⟩
  | i + 1 => by
    have h := cutSt_le s b i
    rw [cutSt]
    split
    · simp; omega
    · omega
def cuts (b : ByteArray) (k : Nat) : List Value := (List.range 256).map fun (v : Nat) => Value.bool ((b.data.toList.take k).contains (UInt8.ofNat v))
theorem cuts_at (b : ByteArray) (k : Nat) {v : Nat} (h : v < 256) : (cuts b k)[v]? = some (.bool ((b.data.toList.take k).contains (UInt8.ofNat v))) := by simp [cuts, h]
theorem ofNat_toNat8 (c : UInt8) : UInt8.ofNat c.toNat = c := by simp
theorem cuts_set (b : ByteArray) {k : Nat} (h : k < b.size) : (cuts b k).set b[k].toNat (.bool true) = cuts b (k + 1) := by
  have hk : b.data.toList[k]? = some b[k] := by
    rw [List.getElem?_eq_getElem (by simpa using h)]
    rfl
  have hc : b[k].toNat < 256 := b[k].toNat_lt
  apply List.ext_getElem?
  intro v
  by_cases hv : v < 256
  · rw [cuts_at b (k + 1) hv, List.take_add_one, hk]
    by_cases e : v = b[k].toNat
    · subst e
      rw [List.getElem?_set_self (by simp [cuts]; exact hc), ofNat_toNat8]
      simp
    · rw [List.getElem?_set_ne (Ne.symm e), cuts_at b k hv]
      have hne : ¬ (UInt8.ofNat v = b[k]) := fun q => e (by rw [← q]; simp; omega)
      simp [hne]
  · rw [List.getElem?_eq_none (by simp [cuts]; omega), List.getElem?_eq_none (by simp [cuts]; omega)]
theorem own_formT {w : World} {base n : Nat} {v : Value} {l : List ByteArray} (h : w.ownsRow base 9 1 v n (strCells l)) : ∃ (A : Option Addr) (c : Nat), v = .slice A l.length c ∧ l.length ≤ c ∧ OwnT w base A l := by
  obtain ⟨hl, h⟩ := h
  have hln : l.length = n := by simpa [strCells] using hl
  rcases h with ⟨h1, h2⟩ | ⟨g, cap, cur, hv, hb, hh, hnc, _, hcs, htk⟩
  · exact ⟨none, 0, by rw [h1, hln, h2], by omega, fun hn => absurd hn (by omega)⟩
  · have hblk : Blk w g 9 cur := hh
    refine ⟨_, cap, by rw [hln]; exact hv, by rw [hln]; exact hnc, fun _ => ⟨g, 0, rfl, hb, hblk.lt, fun i z hz => ⟨?_, hblk.frozen _⟩⟩⟩
    have hi : i < l.length := (List.getElem?_eq_some_iff.1 hz).1
    rw [hblk.cell, Nat.zero_add]
    have : (cur.toList.take (n * 1))[i]? = some (.string z) := by rw [htk]; simp [strCells, hz]
    rw [List.getElem?_take_of_lt (by omega)] at this
    simpa using this
set_option maxRecDepth 100000 in
set_option maxHeartbeats 2000000 in
theorem implSplit (s b : ByteArray) (w : World) (hs : s.size ≤ 1048576) (hb : b.size ≤ 1048576) :
    Calls Try.prog 35 #[.string s, .string b] w fun e w' => ∃ A c, e = .returned (.slice A (splitB s b).length c) ∧ (splitB s b).length ≤ c ∧ OwnT w' w.heap.size A (splitB s b) ∧ Below w.heap.size w w' := by
  obtain ⟨i0, hi, hz0, hz1, hz2⟩ := info_parts strInfo
  go_enter Try.func35, Try.ntmps35
  go_wp2
  go_loopw [12] (fun i wr => ∃ k : Nat, k ≤ b.size ∧ i = .int .i64 k ∧ Blk wr w.heap.size 85 (cuts b k).toArray ∧ Below w.heap.size w wr) (fun i _ => b.size - (intOf i).toNat)
  case atStart =>
    refine ⟨0, Nat.zero_le _, rfl, ?_, (Below.refl _ _).alloc (Nat.le_refl _) _⟩
    have h := Blk.new w 85 (cuts b 0).toArray
    have e : (cuts b 0) = List.replicate 256 (.bool false) := by
      apply List.ext_getElem?
      intro i
      by_cases hi : i < 256
      · rw [List.getElem?_replicate, if_pos hi]; simp [cuts, hi]
      · rw [List.getElem?_eq_none (by simp [cuts]; omega), List.getElem?_eq_none (by simp; omega)]
    rw [e] at h ⊢
    exact h
  case round =>
    obtain ⟨k, hk, rfl, hblk, hbb⟩ := hrel
    have HB := Lib.hid hblk
    clear hblk
    by_cases hlt : k < b.size
    · have hi0 : (0 : Int) ≤ (k : Int) := Int.natCast_nonneg _
      have hi1 : (k : Int) < (b.size : Int) := by omega
      have hc : (b[k].toNat : Int) < 256 := by have := b[k].toNat_lt; omega
      have hcl : wr.cell? ⟨w.heap.size, b[k].toNat, none⟩ = some (.bool ((b.data.toList.take k).contains (UInt8.ofNat b[k].toNat))) := by rw [HB.out.cell]; simp [cuts_at b k b[k].toNat_lt]
      have hfz := HB.out.frozen b[k].toNat
      have hb2 := HB.out.set_ b[k].toNat (.bool true)
      rw [List.setIfInBounds_toArray, cuts_set b hlt] at hb2
      have HB2 := Lib.hid hb2
      clear hb2
      go_wp2
      exact ⟨⟨k + 1, by omega, by go_num, HB2.out, hbb.setCell (Nat.le_refl _) _⟩, by simp [intOf]; omega⟩
    · have hB2 := HB.out
      rw [show k = b.size by omega] at hB2
      have HB2 := Lib.hid hB2
      clear hB2
      have hlt0 : w.heap.size < wr.heap.size := HB2.out.lt
      obtain ⟨wo, rfl⟩ : ∃ wo, wo = wr := ⟨_, rfl⟩
      go_wp2
      go_loopw [7, 8, 22] (fun v st i wr => ∃ (i' : Nat), i' ≤ s.size ∧ i = .int .i64 i' ∧ st = .int .i64 ((cutSt s b i').2 : Nat) ∧ wr.ownsRow (w.heap.size + 1) 9 1 v (cutSt s b i').1.length (strCells (cutSt s b i').1) ∧ Blk wr w.heap.size 85 (cuts b b.size).toArray ∧ Below w.heap.size w wr) (fun _ _ i _ => s.size - (intOf i).toNat)
      case atStart => exact ⟨0, Nat.zero_le _, rfl, rfl, ⟨rfl, .inl ⟨rfl, rfl⟩⟩, HB2.out, hbb⟩
      case round =>
        obtain ⟨i, hi', rfl, rfl, hown, hblk, hbw⟩ := hrel
        have HO := Lib.hid hown
        have HBK := Lib.hid hblk
        have hlk := hblk.lt
        have hle := cutSt_le s b i
        clear hown hblk
        by_cases hlt2 : i < s.size
        · have hj0 : (0 : Int) ≤ (i : Int) := Int.natCast_nonneg _
          have hj1 : (i : Int) < (s.size : Int) := by omega
          have hc : (s[i].toNat : Int) < 256 := by have := s[i].toNat_lt; omega
          have hoc : (cuts b b.size)[s[i].toNat]? = some (.bool (occ b s[i])) := by
            rw [cuts_at b b.size s[i].toNat_lt, ofNat_toNat8, List.take_of_length_le (show b.data.toList.length ≤ b.size from Nat.le_of_eq Array.length_toList)]
            rfl
          have hcl : wr.cell? ⟨w.heap.size, s[i].toNat, none⟩ = some (.bool (occ b s[i])) := by rw [HBK.out.cell]; simpa using hoc
          have hgd : s.data.getD i 0 = s[i] := by
            have hq : i < s.data.size := hlt2
            simp only [Array.getD, hq, dif_pos]
            rfl
          cases hob : occ b s[i] with
          | false =>
            rw [hob] at hcl
            have HC := Lib.hid (show cutSt s b (i + 1) = cutSt s b i by rw [cutSt, hgd, hob]; rfl)
            clear hoc hgd hob hle
            go_wp2
            exact ⟨⟨i + 1, by omega, by go_num, by rw [HC.out], by rw [HC.out]; exact HO.out, HBK.out, hbw⟩, by simp [intOf]; omega⟩
          | true =>
            rw [hob] at hcl
            have HC := Lib.hid (show cutSt s b (i + 1) = ((cutSt s b i).1 ++ [s.extract (cutSt s b i).2 i], i + 1) by rw [cutSt, hgd, hob]; rfl)
            obtain ⟨p, hp⟩ : ∃ p, p = (cutSt s b i).1 := ⟨_, rfl⟩
            obtain ⟨st, hst⟩ : ∃ st, st = (cutSt s b i).2 := ⟨_, rfl⟩
            rw [← hp, ← hst] at HC hle
            rw [← hp] at HO
            rw [← hst]
            obtain ⟨hle1, hle2⟩ := hle
            have hs0 : (0 : Int) ≤ (st : Int) := Int.natCast_nonneg _
            have hs1 : (st : Int) ≤ (i : Int) := by omega
            clear hoc hgd hob hp hst
            go_wp2_with (at_builtin; refine wpList_append_own _ rfl _ _ 49 rfl (w.heap.size + 1) 9 i0 (.string ⟨#[]⟩) 1 16 Try.underlying49 hi hz0 hz1 hz2 rfl (by decide) _ _ _ rfl (HO.out.alloc _) ⟨wr.heap.size, 0, none⟩ 1 1 [.string (s.extract st i)] rfl rfl ?c1 ?c2 ?c3 ?c4 ?c5 ?_)
            case c1 => exact one_cellI _ _ (by simp) _ _
            case c2 =>
              intro u hu
              rw [List.mem_singleton] at hu
              subst hu
              rfl
            case c3 => unfold maxLen; omega
            case c4 => omega
            case c5 => simp; omega
            intro v' w1 hown' hgrow _
            have HO2 : Hid (w1.ownsRow (w.heap.size + 1) 9 1 v' (p ++ [s.extract st i]).length (strCells (p ++ [s.extract st i]))) := Lib.hid (by
              have h3 := hown'
              simpa [strCells] using h3)
            have HBK2 : Hid (Blk w1 w.heap.size 85 (cuts b b.size).toArray) := Lib.hid ((hgrow.block w.heap.size (by simp; omega) (fun h => by have := (HO.out.lt _ h.symm).1; omega)).trans (HBK.out.alloc _))
            have hb4 : Below w.heap.size w w1 := (hbw.alloc hbw.size (Obj.cells #[.string (s.extract st i)] 9)).grown hgrow (by simp; have := hbw.size; omega) (fun q hq => by have := (HO.out.lt q hq).1; omega)
            clear hown' hgrow
            go_wp2
            exact ⟨⟨i + 1, by omega, by go_num, by rw [HC.out]; go_num, by rw [HC.out]; exact HO2.out, HBK2.out, hb4⟩, by simp [intOf]; omega⟩
        · have his : i = s.size := by omega
          have HSP := Lib.hid (show splitB s b = (cutSt s b i).1 ++ [s.extract (cutSt s b i).2 s.size] by rw [his]; rfl)
          obtain ⟨p, hp⟩ : ∃ p, p = (cutSt s b i).1 := ⟨_, rfl⟩
          obtain ⟨st, hst⟩ : ∃ st, st = (cutSt s b i).2 := ⟨_, rfl⟩
          rw [← hp, ← hst] at HSP hle
          rw [← hp] at HO
          rw [← hst]
          obtain ⟨hle1, hle2⟩ := hle
          have hs0 : (0 : Int) ≤ (st : Int) := Int.natCast_nonneg _
          have hs1 : (st : Int) ≤ (s.size : Int) := by omega
          have hs2 : p.length ≤ 1048576 := by omega
          clear hp hst his
          go_wp2_with (at_builtin; refine wpList_append_own _ rfl _ _ 49 rfl (w.heap.size + 1) 9 i0 (.string ⟨#[]⟩) 1 16 Try.underlying49 hi hz0 hz1 hz2 rfl (by decide) _ _ _ rfl (HO.out.alloc _) ⟨wr.heap.size, 0, none⟩ 1 1 [.string (s.extract st s.size)] rfl rfl ?c1 ?c2 ?c3 ?c4 ?c5 ?_)
          case c1 => exact one_cellI _ _ (by simp) _ _
          case c2 =>
            intro u hu
            rw [List.mem_singleton] at hu
            subst hu
            rfl
          case c3 => unfold maxLen; omega
          case c4 => omega
          case c5 => simp; omega
          intro v' w1 hown' hgrow _
          have hO2 : w1.ownsRow (w.heap.size + 1) 9 1 v' (splitB s b).length (strCells (splitB s b)) := by
            rw [HSP.out]
            have h3 := hown'
            simpa [strCells] using h3
          obtain ⟨A2, c2, rfl, hcap, ho2⟩ := own_formT hO2
          have HT := Lib.hid ho2
          have hb4 : Below w.heap.size w w1 := (hbw.alloc hbw.size (Obj.cells #[.string (s.extract st s.size)] 9)).grown hgrow (by simp; have := hbw.size; omega) (fun q hq => by have := (HO.out.lt q hq).1; omega)
          clear hown' hgrow hO2 ho2
          go_wp2
          go_ret
          refine ⟨A2, c2, rfl, hcap, fun hn => ?_, hb4⟩
          obtain ⟨g, off, e1, e2, e3⟩ := HT.out hn
          exact ⟨g, off, e1, by omega, e3⟩
end Go.Proofs.Ytbmihbbpdmpmpaa
