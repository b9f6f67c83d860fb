/- SplitAny: the specification's side. -/
import Derived.Test.YtbmihbbpdmpmpaaSplitS
import Derived.RegionTactic
namespace Go.Proofs.Ytbmihbbpdmpmpaa
open Go.RowKit

theorem byte_at {b : ByteArray} {k : Nat} (h : k < b.size) : b.data.toList[k]? = some b[k] := by
  rw [List.getElem?_eq_getElem (by simpa using h)]
  rfl
theorem occ_hit {b : ByteArray} {k : Nat} (h : k < b.size) {c : UInt8} (e : c = b[k]) : occ b c = true := by
  unfold occ
  rw [List.contains_iff_mem, e]
  exact List.mem_of_getElem? (byte_at h)
set_option maxRecDepth 100000 in
set_option maxHeartbeats 2000000 in
theorem specSplit (s b : ByteArray) (w : World) (hs : s.size ≤ 1048576) (hb : b.size ≤ 1048576) :
    Calls Try.prog 34 #[.string s, .string b] w fun e w' => ∃ A c, e = .returned (.slice A (splitB s b).length c) ∧ (splitB s b).length ≤ c ∧ OwnT w' w.heap.size A (splitB s b) ∧ Below w.heap.size w w' := by
  obtain ⟨i0, hi, hz0, hz1, hz2⟩ := info_parts strInfo
  go_enter Try.func34, Try.ntmps34
  go_wp2
  go_loopw [5, 6, 7] (fun v st i wr => ∃ (i' : Nat), i' ≤ s.size ∧ i = .int .i64 i' ∧ st = .int .i64 ((cutSt s b i').2 : Nat) ∧ wr.ownsRow w.heap.size 9 1 v (cutSt s b i').1.length (strCells (cutSt s b i').1) ∧ Below w.heap.size w wr) (fun _ _ i _ => s.size - (intOf i).toNat)
  case atStart => exact ⟨0, Nat.zero_le _, rfl, rfl, ⟨rfl, .inr ⟨w.heap.size, 0, #[], rfl, Nat.le_refl _, heap_alloc_new w _, Nat.le_refl _, Nat.zero_le _, rfl, rfl⟩⟩, (Below.refl _ _).alloc (Nat.le_refl _) _⟩
  case round =>
    obtain ⟨i, hi', rfl, rfl, hown, hbw⟩ := hrel
    have HO := Lib.hid hown
    have HBW := Lib.hid hbw
    have hle := cutSt_le s b i
    clear hown hbw
    by_cases hlt2 : i < s.size
    · have hj0 : (0 : Int) ≤ (i : Int) := Int.natCast_nonneg _
      have hj1 : (i : Int) < (s.size : Int) := by omega
      have hgd : s.data.getD i 0 = s[i] := by
        have hq : i < s.data.size := hlt2
        simp only [Array.getD, hq, dif_pos]
        rfl
      have HC1 := Lib.hid (show occ b s[i] = true → cutSt s b (i + 1) = ((cutSt s b i).1 ++ [s.extract (cutSt s b i).2 i], i + 1) from fun h => by rw [cutSt, hgd, h]; rfl)
      have HC0 := Lib.hid (show occ b s[i] = false → cutSt s b (i + 1) = cutSt s b i from fun h => by rw [cutSt, hgd, h]; rfl)
      obtain ⟨p, hp⟩ : ∃ p, p = (cutSt s b i).1 := ⟨_, rfl⟩
      obtain ⟨st, hst⟩ : ∃ st, st = (cutSt s b i).2 := ⟨_, rfl⟩
      have HPS := Lib.hid (show cutSt s b i = (p, st) by rw [hp, hst])
      rw [← hp, ← hst] at HC1 hle
      rw [← hp] at HO
      rw [← hst]
      obtain ⟨hle1, hle2⟩ := hle
      have hs0 : (0 : Int) ≤ (st : Int) := Int.natCast_nonneg _
      have hs1 : (st : Int) ≤ (i : Int) := by omega
      clear hgd hp hst
      obtain ⟨wo, rfl⟩ : ∃ wo, wo = wr := ⟨_, rfl⟩
      obtain ⟨vo, rfl⟩ : ∃ vo, vo = u5 := ⟨_, rfl⟩
      go_wp2
      go_loopw [5, 6, 8] (fun v sv kv wr => ∃ (k : Nat), k ≤ b.size ∧ kv = .int .i64 k ∧ sv = .int .i64 (st : Nat) ∧ v = vo ∧ (b.data.toList.take k).contains s[i] = false ∧ wr.ownsRow w.heap.size 9 1 vo p.length (strCells p) ∧ Below w.heap.size w wr) (fun _ _ kv _ => b.size - (intOf kv).toNat)
      case atStart => exact ⟨0, Nat.zero_le _, rfl, rfl, rfl, rfl, HO.out, HBW.out⟩
      case round =>
        obtain ⟨k, hk, rfl, rfl, rfl, hno, hown, hbw⟩ := hrel
        have HN := Lib.hid hno
        have HO1 := Lib.hid hown
        clear hno hown
        by_cases hlt3 : k < b.size
        · have hk0 : (0 : Int) ≤ (k : Int) := Int.natCast_nonneg _
          have hk1 : (k : Int) < (b.size : Int) := by omega
          by_cases he : s[i] = b[k]
          · have t1 : ((s[i].toNat : Int) == (b[k].toNat : Int)) = true := by rw [he]; simp
            have HC := Lib.hid (HC1.out (occ_hit hlt3 he))
            clear he
            have HOD : Hid (wr.drew.ownsRow w.heap.size 9 1 u5 p.length (strCells p)) := Lib.hid HO1.out
            have hbd : Below w.heap.size w wr.drew := hbw.drew
            have hbds := hbd.size
            have hbws := hbw.size
            go_wp2_with fail
            go_region
            go_wp2_with (at_builtin; refine wpList_append_own _ rfl _ _ 49 rfl w.heap.size 9 i0 (.string ⟨#[]⟩) 1 16 Try.underlying49 hi hz0 hz1 hz2 rfl (by decide) _ _ _ rfl (HOD.out.alloc _) ⟨wr.heap.size, 0, none⟩ 1 1 [.string (s.extract st i)] rfl rfl ?c1 ?c2 ?c3 ?c4 ?c5 ?_)
            case c1 => exact one_cellI wr.drew _ rfl _ _
            case c2 =>
              intro u hu
              rw [List.mem_singleton] at hu
              subst hu
              rfl
            case c3 => unfold maxLen; omega
            case c4 => omega
            case c5 => simp; omega
            intro v' w1 hown' hgrow _
            have HO2 : Hid (w1.ownsRow w.heap.size 9 1 v' (p ++ [s.extract st i]).length (strCells (p ++ [s.extract st i]))) := Lib.hid (by
              have h3 := hown'
              simpa [strCells] using h3)
            have hb4 : Below w.heap.size w w1 := (hbd.alloc hbd.size (Obj.cells #[.string (s.extract st i)] 9)).grown hgrow (by simp; omega) (fun q hq => (HOD.out.lt q hq).1)
            clear hown' hgrow
            go_wp2
            exact ⟨⟨i + 1, by omega, by go_num, by rw [HC.out]; go_num, by rw [HC.out]; exact HO2.out, hb4⟩, by simp [intOf]; omega⟩
          · have t1 : ((s[i].toNat : Int) == (b[k].toNat : Int)) = false := by
              have : ¬ s[i].toNat = b[k].toNat := fun q => he (UInt8.toNat_inj.1 q)
              simp only [beq_eq_false_iff_ne, ne_eq]
              omega
            have HN2 := Lib.hid (show (b.data.toList.take (k + 1)).contains s[i] = false by
              rw [List.take_add_one, byte_at hlt3]
              have := HN.out
              simp only [Option.toList_some, List.contains_append, this, Bool.false_or]
              simp [he])
            clear he
            go_wp2_with fail
            go_region
            go_wp2
            exact ⟨⟨k + 1, by omega, by go_num, rfl, rfl, HN2.out, HO1.out, hbw.drew⟩, by simp [intOf]; omega⟩
        · have HC := Lib.hid (HC0.out (by have h := HN.out; rwa [List.take_of_length_le (show b.data.toList.length ≤ k by have : b.data.toList.length = b.size := Array.length_toList; omega)] at h))
          go_wp2
          exact ⟨⟨i + 1, by omega, by go_num, by rw [HC.out, HPS.out], by rw [HC.out, HPS.out]; exact HO1.out, hbw⟩, by simp [intOf]; omega⟩
    · have his : i = s.size := by omega
      have HSP := Lib.hid (show splitB s b = (cutSt s b i).1 ++ [s.extract (cutSt s b i).2 s.size] by rw [his]; rfl)
      obtain ⟨p, hp⟩ : ∃ p, p = (cutSt s b i).1 := ⟨_, rfl⟩
      obtain ⟨st, hst⟩ : ∃ st, st = (cutSt s b i).2 := ⟨_, rfl⟩
      rw [← hp, ← hst] at HSP hle
      rw [← hp] at HO
      rw [← hst]
      obtain ⟨hle1, hle2⟩ := hle
      have hs0 : (0 : Int) ≤ (st : Int) := Int.natCast_nonneg _
      have hs1 : (st : Int) ≤ (s.size : Int) := by omega
      have hs2 : p.length ≤ 1048576 := by omega
      have hbws := HBW.out.size
      clear hp hst his
      go_wp2_with (at_builtin; refine wpList_append_own _ rfl _ _ 49 rfl w.heap.size 9 i0 (.string ⟨#[]⟩) 1 16 Try.underlying49 hi hz0 hz1 hz2 rfl (by decide) _ _ _ rfl (HO.out.alloc _) ⟨wr.heap.size, 0, none⟩ 1 1 [.string (s.extract st s.size)] rfl rfl ?c1 ?c2 ?c3 ?c4 ?c5 ?_)
      case c1 => exact one_cellI _ _ (by simp) _ _
      case c2 =>
        intro u hu
        rw [List.mem_singleton] at hu
        subst hu
        rfl
      case c3 => unfold maxLen; omega
      case c4 => omega
      case c5 => simp; omega
      intro v' w1 hown' hgrow _
      have hO2 : w1.ownsRow w.heap.size 9 1 v' (splitB s b).length (strCells (splitB s b)) := by
        rw [HSP.out]
        have h3 := hown'
        simpa [strCells] using h3
      obtain ⟨A2, c2, rfl, hcap, ho2⟩ := own_formT hO2
      have HT := Lib.hid ho2
      have hb4 : Below w.heap.size w w1 := (HBW.out.alloc hbws (Obj.cells #[.string (s.extract st s.size)] 9)).grown hgrow (by simp; omega) (fun q hq => (HO.out.lt q hq).1)
      clear hown' hgrow hO2 ho2
      go_wp2
      go_ret
      exact ⟨A2, c2, rfl, hcap, HT.out, hb4⟩
theorem splitB_len {s b : ByteArray} (h : s.size ≤ 1048576) : (splitB s b).length ≤ 2000000 := by
  have := (cutSt_le s b s.size).2
  rw [splitB, List.length_append, List.length_singleton]
  omega
/-- a slice of strings that is new memory -/
def GivesT (w : World) (l : List ByteArray) (e : Ending) (w' : World) : Prop := ∃ (A : Option Addr) (c : Nat), e = .returned (.slice A l.length c) ∧ OwnT w' w.heap.size A l ∧ Below w.heap.size w w'
theorem specSplitT (s b : ByteArray) (w : World) (hs : s.size ≤ 1048576) (hb : b.size ≤ 1048576) : Calls Try.prog 34 #[.string s, .string b] w (GivesT w (splitB s b)) :=
  (specSplit s b w hs hb).mono fun _ _ ⟨A, c, h1, _, h2, h3⟩ => ⟨A, c, h1, h2, h3⟩
theorem implSplitT (s b : ByteArray) (w : World) (hs : s.size ≤ 1048576) (hb : b.size ≤ 1048576) : Calls Try.prog 35 #[.string s, .string b] w (GivesT w (splitB s b)) :=
  (implSplit s b w hs hb).mono fun _ _ ⟨A, c, h1, _, h2, h3⟩ => ⟨A, c, h1, h2, h3⟩
end Go.Proofs.Ytbmihbbpdmpmpaa
