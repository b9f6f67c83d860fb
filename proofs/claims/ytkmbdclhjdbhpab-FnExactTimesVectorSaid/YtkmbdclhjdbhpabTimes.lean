/- TimesVector: the specification's appended sums and the program's filled slice are one plain list. -/
import Derived.Test.YtkmbdclhjdbhpabMatOk
import Derived.Laws.AppendOwn
import Derived.Laws.OwnMore
import Derived.OwnWalk
namespace Go.Proofs.Ytkmbdclhjdbhpab
open Go.RowKit

def dot (r x : List Int) : Nat → Int
  | 0 => 0
  | j + 1 => wrap64 (dot r x j + wrap64 (r.getD j 0 * x.getD j 0))
def timesB (rs : List (List Int)) (x : List Int) : List Int := if matB rs = true ∧ x.length = rs.length then rs.map fun r => dot r x rs.length else []
theorem timesB_no {rs : List (List Int)} {x : List Int} (h : matB rs = false ∨ x.length ≠ rs.length) : timesB rs x = [] := by
  rw [timesB, if_neg]
  rintro ⟨h1, h2⟩
  rcases h with h | h
  · rw [h1] at h; cases h
  · exact h h2
theorem timesB_yes {rs : List (List Int)} {x : List Int} (h : matB rs = true) (h2 : x.length = rs.length) : timesB rs x = rs.map fun r => dot r x rs.length := by rw [timesB, if_pos ⟨h, h2⟩]
theorem getD_of {l : List Int} {j : Nat} {z : Int} (h : l[j]? = some z) : l.getD j 0 = z := by simp [List.getD, h]
theorem matB_rows {rs : List (List Int)} (h : matB rs = true) : rs.length ≤ 6 ∧ ∀ r ∈ rs, r.length = rs.length := by
  simp only [matB, Bool.and_eq_true, decide_eq_true_eq, List.all_eq_true] at h
  refine ⟨h.1, fun r hr => ?_⟩
  have := h.2 r hr
  simp only [rowOk, Bool.and_eq_true, decide_eq_true_eq] at this
  exact this.1
theorem map_take {rs : List (List Int)} {f : List Int → Int} {k : Nat} {r : List Int} (h : rs[k]? = some r) : (rs.map f).take (k + 1) = (rs.map f).take k ++ [f r] := by
  rw [List.take_add_one, List.getElem?_map, h]
  rfl

set_option maxHeartbeats 1000000 in
theorem specTimes_yes (A C : Option Addr) (ca cc : Nat) (rs : List (List Int)) (x : List Int) (w : World) (hm : matB rs = true) (hx : x.length = rs.length) (hS : IntSS w w.heap.size A rs) (hX : IntS w w.heap.size C x) :
    Calls Try.prog 15 #[.slice A rs.length ca, .slice C x.length cc] w (GivesInts w (rs.map fun r => dot r x rs.length)) := by
  obtain ⟨i0, hi, hz0, hz1, hz2⟩ := info_parts intInfo
  obtain ⟨h6, hrow⟩ := matB_rows hm
  have HR := Lib.hid hrow
  have HS := Lib.hid hS
  have HX := Lib.hid hX
  have t1 : ((x.length : Int) != (rs.length : Int)) = false := by simp [hx]
  have HLX := Lib.hid hx
  have HM := Lib.hid (specMatrixOk A ca rs w (by omega) (fun r hr => by rw [hrow r hr]; omega) hS)
  rw [hm] at HM
  clear hrow hS hX hx hm
  go_enter Try.func15, Try.ntmps15
  go_wp2_with (go_at_call 59; refine HM.out.mono ?_; rintro e w' ⟨rfl, rfl⟩)
  go_loopw [5, 24] (fun v i wr => ∃ k : Nat, k ≤ rs.length ∧ i = .int .i64 k ∧ wr.ownsRow w.heap.size 3 1 v k (intCells ((rs.map fun r => dot r x rs.length).take k)) ∧ Below w.heap.size w wr) (fun _ i _ => rs.length - (intOf i).toNat)
  case atStart =>
    refine ⟨0, Nat.zero_le _, rfl, ?_, (Below.refl _ _).alloc (Nat.le_refl _) _⟩
    exact ⟨rfl, .inr ⟨w.heap.size, 0, #[], rfl, Nat.le_refl _, heap_alloc_new w _, Nat.le_refl _, Nat.zero_le _, rfl, rfl⟩⟩
  case round =>
    obtain ⟨k, hk, rfl, hown, hb⟩ := hrel
    have HO := Lib.hid hown
    clear hown
    by_cases hlt : k < rs.length
    · obtain ⟨b1, o1, r, Ai, ci, rfl, hb1, he, hc0, hri⟩ := (HS.out.below hb).at_ hlt
      have hi0 : (0 : Int) ≤ (k : Int) := Int.natCast_nonneg _
      have hi1 : (k : Int) < (rs.length : Int) := by omega
      have hrl : r.length ≤ rs.length := by have := HR.out r (List.mem_of_getElem? he); omega
      have hrl2 : rs.length ≤ r.length := by have := HR.out r (List.mem_of_getElem? he); omega
      have HE := Lib.hid he
      have HRI := Lib.hid hri
      have HXB := Lib.hid (HX.out.below hb)
      have hbn := hb.size
      clear he hri
      go_wp2
      go_loop [8, 30] (fun s i => ∃ j : Nat, j ≤ r.length ∧ i = .int .i64 j ∧ s = .int .i64 (dot r x j)) (fun _ i => r.length - (intOf i).toNat)
      case atStart => exact ⟨0, Nat.zero_le _, rfl, rfl⟩
      case round =>
        obtain ⟨j, hj, rfl, rfl⟩ := hrel
        by_cases hlt2 : j < r.length
        · obtain ⟨b2, o2, z, rfl, hb2, hz, hd0⟩ := HRI.out.at_ hlt2
          obtain ⟨b3, o3, y, rfl, hb3, hy, hd1⟩ := HXB.out.at_ (k := j) (by have := HLX.out; omega)
          have hj0 : (0 : Int) ≤ (j : Int) := Int.natCast_nonneg _
          have hj1 : (j : Int) < (r.length : Int) := by omega
          have hj2 : (j : Int) < (x.length : Int) := by have := HLX.out; omega
          have HD := Lib.hid (show dot r x (j + 1) = wrap64 (dot r x j + wrap64 (z * y)) by rw [dot, getD_of hz, getD_of hy])
          clear hz hy
          go_wp2
          exact ⟨⟨j + 1, by omega, by go_num, by rw [HD.out]⟩, by simp [intOf]; omega⟩
        · have HJ := Lib.hid (show j = rs.length by omega)
          have HMT := Lib.hid (map_take (f := fun r => dot r x rs.length) HE.out)
          go_wp2_with (at_builtin; refine wpList_append_own _ rfl _ _ 23 rfl w.heap.size 3 i0 (.int .i64 0) 1 8 Try.underlying23 hi hz0 hz1 hz2 rfl (by decide) _ _ _ rfl (HO.out.alloc _) ⟨wr.heap.size, 0, none⟩ 1 1 [.int .i64 (dot r x j)] rfl rfl ?c1 ?c2 ?c3 ?c4 ?c5 ?_)
          case c2 => simp [Value.oneCell']
          case c3 => unfold maxLen; omega
          case c4 => omega
          case c5 => omega
          intro v' w1 hown' hgrow _
          have HO2 := Lib.hid hown'
          clear hown'
          go_wp2
          refine ⟨⟨k + 1, by omega, by go_num, ?_, (hb.alloc hb.size _).grown hgrow (by simp; omega) (fun q hq => (HO.out.lt q hq).1)⟩, by simp [intOf]; omega⟩
          have h3 := HO2.out
          rw [HJ.out] at h3
          rw [HMT.out]
          simpa [intCells] using h3
    · have HO3 := HO.out
      rw [show k = rs.length by omega, List.take_of_length_le (by simp)] at HO3
      obtain ⟨Ar, cr, rfl⟩ : ∃ Ar cr, u5 = .slice Ar rs.length cr := by
        rcases HO3.2 with ⟨h1, h2⟩ | ⟨g, cap, cur, h1, _⟩
        · exact ⟨none, 0, by rw [h1, h2]⟩
        · exact ⟨_, _, h1⟩
      have HF := Lib.hid (OwnI.of_own HO3)
      have HLM := Lib.hid (show (rs.map fun r => dot r x rs.length).length = rs.length by simp)
      clear HO3
      go_wp2
      go_ret
      exact ⟨Ar, cr, by rw [HLM.out]; rfl, HF.out, hb⟩

set_option maxHeartbeats 1000000 in
theorem specTimes_no (A C : Option Addr) (ca cc : Nat) (rs : List (List Int)) (x : List Int) (w : World) (hn : rs.length ≤ 1048576) (hl : ∀ r ∈ rs, r.length ≤ 1048576) (h : matB rs = false ∨ (matB rs = true ∧ x.length ≠ rs.length)) (hS : IntSS w w.heap.size A rs) :
    Calls Try.prog 15 #[.slice A rs.length ca, .slice C x.length cc] w (GivesInts w []) := by
  have HM := Lib.hid (specMatrixOk A ca rs w (by omega) (fun r hr => by have := hl r hr; omega) hS)
  clear hl hS
  rcases h with h | ⟨h, h2⟩
  · rw [h] at HM
    clear h
    go_enter Try.func15, Try.ntmps15
    go_wp2_with (go_at_call 59; refine HM.out.mono ?_; rintro e w' ⟨rfl, rfl⟩)
    go_ret
    exact ⟨none, 0, rfl, OwnI.nil _ _ _, Below.refl _ _⟩
  · rw [h] at HM
    have t1 : ((x.length : Int) != (rs.length : Int)) = true := by simp; omega
    clear h h2
    go_enter Try.func15, Try.ntmps15
    go_wp2_with (go_at_call 59; refine HM.out.mono ?_; rintro e w' ⟨rfl, rfl⟩)
    go_ret
    exact ⟨none, 0, rfl, OwnI.nil _ _ _, Below.refl _ _⟩
theorem specTimes (A C : Option Addr) (ca cc : Nat) (rs : List (List Int)) (x : List Int) (w : World) (hn : rs.length ≤ 1048576) (hl : ∀ r ∈ rs, r.length ≤ 1048576) (hS : IntSS w w.heap.size A rs) (hX : IntS w w.heap.size C x) :
    Calls Try.prog 15 #[.slice A rs.length ca, .slice C x.length cc] w (GivesInts w (timesB rs x)) := by
  cases h : matB rs with
  | false => rw [timesB_no (.inl h)]; exact specTimes_no A C ca cc rs x w hn hl (.inl h) hS
  | true =>
    by_cases h2 : x.length = rs.length
    · rw [timesB_yes h h2]; exact specTimes_yes A C ca cc rs x w h h2 hS hX
    · rw [timesB_no (.inr h2)]; exact specTimes_no A C ca cc rs x w hn hl (.inr ⟨h, h2⟩) hS

set_option maxHeartbeats 1000000 in
theorem implTimes_no (A C : Option Addr) (ca cc : Nat) (rs : List (List Int)) (x : List Int) (w : World) (hn : rs.length ≤ 1048576) (hl : ∀ r ∈ rs, r.length ≤ 1048576) (h : matB rs = false ∨ (matB rs = true ∧ x.length ≠ rs.length)) (hS : IntSS w w.heap.size A rs) :
    Calls Try.prog 18 #[.slice A rs.length ca, .slice C x.length cc] w (GivesInts w []) := by
  have HM := Lib.hid (implMatrixOk A ca rs w (by omega) (fun r hr => by have := hl r hr; omega) hS)
  clear hl hS
  rcases h with h | ⟨h, h2⟩
  · rw [h] at HM
    clear h
    go_enter Try.func18, Try.ntmps18
    go_wp2_with (go_at_call 60; refine HM.out.mono ?_; rintro e w1 ⟨rfl, hb1⟩)
    go_ret
    exact ⟨none, 0, rfl, OwnI.nil _ _ _, hb1⟩
  · rw [h] at HM
    have t1 : ((x.length : Int) != (rs.length : Int)) = true := by simp; omega
    clear h h2
    go_enter Try.func18, Try.ntmps18
    go_wp2_with (go_at_call 60; refine HM.out.mono ?_; rintro e w1 ⟨rfl, hb1⟩)
    go_ret
    exact ⟨none, 0, rfl, OwnI.nil _ _ _, hb1⟩

theorem partI_len (xs : List Int) (k : Nat) (h : k ≤ xs.length) : (partI xs k).length = xs.length := by simp [partI]; omega
theorem partI_same (xs : List Int) (k : Nat) (h : k < xs.length) : (partI xs k).set k 0 = partI xs k := by
  apply List.ext_getElem?
  intro i
  by_cases e : i = k
  · subst e
    rw [partI_at xs i h, List.getElem?_set_self (by rw [partI_len _ _ (by omega)]; exact h)]
  · rw [List.getElem?_set_ne (Ne.symm e)]
theorem blk_setI {w : World} {g : Nat} {t : TypeId} {l : List Int} {k : Nat} {u v : Int} (h : Blk w g t (intCells (l.set k u)).toArray) : Blk (w.setCell ⟨g, k, none⟩ (.int .i64 v)) g t (intCells (l.set k v)).toArray := by
  have h2 := h.set_ k (.int .i64 v)
  rw [List.setIfInBounds_toArray] at h2
  have : (intCells (l.set k u)).set k (.int .i64 v) = intCells (l.set k v) := by
    simp [intCells, List.map_set]
  rw [this] at h2
  exact h2

set_option maxHeartbeats 1000000 in
theorem implTimes_yes (A C : Option Addr) (ca cc : Nat) (rs : List (List Int)) (x : List Int) (w : World) (hm : matB rs = true) (hx : x.length = rs.length) (hS : IntSS w w.heap.size A rs) (hX : IntS w w.heap.size C x) :
    Calls Try.prog 18 #[.slice A rs.length ca, .slice C x.length cc] w (GivesInts w (rs.map fun r => dot r x rs.length)) := by
  obtain ⟨h6, hrow⟩ := matB_rows hm
  have HR := Lib.hid hrow
  have HS := Lib.hid hS
  have HX := Lib.hid hX
  have t1 : ((x.length : Int) != (rs.length : Int)) = false := by simp [hx]
  have HLX := Lib.hid hx
  have HM := Lib.hid (implMatrixOk A ca rs w (by omega) (fun r hr => by rw [hrow r hr]; omega) hS)
  rw [hm] at HM
  have hmk := make_ints rs.length (by omega)
  obtain ⟨outs, houts⟩ : ∃ outs, outs = rs.map fun r => dot r x rs.length := ⟨_, rfl⟩
  have hol : outs.length = rs.length := by rw [houts]; simp
  have HO := Lib.hid houts
  have HOL := Lib.hid hol
  rw [← houts]
  clear hrow hS hX hx hm houts hol
  go_enter Try.func18, Try.ntmps18
  go_wp2_with (go_at_call 60; refine HM.out.mono ?_; rintro e w1 ⟨rfl, hb1⟩)
  have hs1 := hb1.size
  go_loopw [24] (fun i wr => ∃ k : Nat, k ≤ rs.length ∧ i = .int .i64 k ∧ Blk wr w1.heap.size 3 (intCells (partI outs k)).toArray ∧ Below w.heap.size w wr) (fun i _ => rs.length - (intOf i).toNat)
  case atStart =>
    refine ⟨0, Nat.zero_le _, rfl, ?_, hb1.alloc hb1.size _⟩
    have hq := Blk.new w1 3 (intCells (List.replicate rs.length 0)).toArray
    have e : partI outs 0 = List.replicate rs.length 0 := by rw [partI, List.take_zero, Nat.sub_zero, HOL.out]; rfl
    rw [e]
    exact hq
  case round =>
    obtain ⟨k, hk, rfl, hblk, hb⟩ := hrel
    have HB := Lib.hid hblk
    clear hblk hmk
    by_cases hlt : k < rs.length
    · obtain ⟨b1, o1, r, Ai, ci, rfl, hb1', he, hc0, hri⟩ := (HS.out.below hb).at_ hlt
      have hi0 : (0 : Int) ≤ (k : Int) := Int.natCast_nonneg _
      have hi1 : (k : Int) < (rs.length : Int) := by omega
      have hrl : r.length ≤ rs.length := by have := HR.out r (List.mem_of_getElem? he); omega
      have hrl2 : rs.length ≤ r.length := by have := HR.out r (List.mem_of_getElem? he); omega
      have HE := Lib.hid he
      have HRI := Lib.hid hri
      have hko : k < outs.length := by rw [HOL.out]; exact hlt
      have HB0 := Lib.hid (show Blk wr w1.heap.size 3 (intCells ((partI outs k).set k 0)).toArray by rw [partI_same _ _ hko]; exact HB.out)
      clear he hri
      obtain ⟨wo, rfl⟩ : ∃ wo : World, wo = wr := ⟨_, rfl⟩
      go_wp2
      go_loopw [31] (fun i wr => ∃ j : Nat, j ≤ r.length ∧ i = .int .i64 j ∧ Blk wr w1.heap.size 3 (intCells ((partI outs k).set k (dot r x j))).toArray ∧ Below w.heap.size w wr) (fun i _ => r.length - (intOf i).toNat)
      case atStart => exact ⟨0, Nat.zero_le _, rfl, HB0.out, hb⟩
      case round =>
        obtain ⟨j, hj, rfl, hblk2, hb2⟩ := hrel
        have HB2 := Lib.hid hblk2
        clear hblk2
        by_cases hlt2 : j < r.length
        · obtain ⟨b2, o2, z, rfl, hb2', hz, hd0⟩ := (HRI.out.keep (w' := wr) (B' := w.heap.size) (fun p hp => by rw [hb2.cell hp, hb.cell hp]) (Nat.le_refl _)).at_ hlt2
          obtain ⟨b3, o3, y, rfl, hb3, hy, hd1⟩ := (HX.out.below hb2).at_ (k := j) (by have := HLX.out; omega)
          have hj0 : (0 : Int) ≤ (j : Int) := Int.natCast_nonneg _
          have hj1 : (j : Int) < (r.length : Int) := by omega
          have hj2 : (j : Int) < (x.length : Int) := by have := HLX.out; omega
          have HD := Lib.hid (show dot r x (j + 1) = wrap64 (dot r x j + wrap64 (z * y)) by rw [dot, getD_of hz, getD_of hy])
          have hp0 : wr.cell? ⟨w1.heap.size, k, none⟩ = some (.int .i64 (dot r x j)) := by
            rw [HB2.out.cell]
            simp [intCells, partI_len _ _ (Nat.le_of_lt hko), hko]
          have hf0 := HB2.out.frozen k
          clear hz hy
          go_wp2
          go_region
          go_wp2
          refine ⟨⟨j + 1, by omega, by go_num, ?_, (hb2.setCell hs1 _).drew⟩, by simp [intOf]; omega⟩
          rw [HD.out]
          exact (blk_setI HB2.out).drew
        · have HQ := HB2.out
          have hres : outs[k]? = some (dot r x j) := by rw [HO.out, List.getElem?_map, HE.out, show j = rs.length by omega]; rfl
          rw [partI_set _ _ _ hres] at HQ
          have HQ2 := Lib.hid HQ
          clear HQ hres
          go_wp2
          exact ⟨⟨k + 1, by omega, by go_num, HQ2.out, hb2⟩, by simp [intOf]; omega⟩
    · have HQ := HB.out
      rw [show k = outs.length by rw [HOL.out]; omega, partI_all] at HQ
      have HQ2 := Lib.hid HQ
      clear HQ
      go_wp2
      go_ret
      exact ⟨some ⟨w1.heap.size, 0, none⟩, rs.length, by rw [HOL.out]; rfl, OwnI.of_blk HQ2.out hs1, hb⟩
theorem implTimes (A C : Option Addr) (ca cc : Nat) (rs : List (List Int)) (x : List Int) (w : World) (hn : rs.length ≤ 1048576) (hl : ∀ r ∈ rs, r.length ≤ 1048576) (hS : IntSS w w.heap.size A rs) (hX : IntS w w.heap.size C x) :
    Calls Try.prog 18 #[.slice A rs.length ca, .slice C x.length cc] w (GivesInts w (timesB rs x)) := by
  cases h : matB rs with
  | false => rw [timesB_no (.inl h)]; exact implTimes_no A C ca cc rs x w hn hl (.inl h) hS
  | true =>
    by_cases h2 : x.length = rs.length
    · rw [timesB_yes h h2]; exact implTimes_yes A C ca cc rs x w h h2 hS hX
    · rw [timesB_no (.inr h2)]; exact implTimes_no A C ca cc rs x w hn hl (.inr ⟨h, h2⟩) hS
theorem timesB_len {rs : List (List Int)} {x : List Int} (hn : rs.length ≤ 1048576) : (timesB rs x).length ≤ 1048576 := by
  unfold timesB
  split
  · simpa using hn
  · simp
end Go.Proofs.Ytkmbdclhjdbhpab
