/- Sets of vertices: the specification's l04Set and the program's isVertexSet. -/
import Derived.Test.YtkmbdclhjdbhpaaFireM
import Derived.Test.YtkmbdclhjdbhpaaCell1
import Derived.Test.YtkmbdclhjdbhpaaVertB
import Derived.Test.YtkmbdclhjdbhpaaKeep
namespace Go.Proofs.Ytkmbdclhjdbhpaa
open Go.RowKit

def setOk (N : Int) (l : List Int) : Bool := decide ((∀ v ∈ l, 0 ≤ v ∧ v < N) ∧ l.Nodup)
theorem setOk_all {N : Int} {l : List Int} (h : setOk N l = true) : (∀ v ∈ l, 0 ≤ v ∧ v < N) ∧ l.Nodup := by simpa [setOk] using h
theorem setOk_snoc {N : Int} {l : List Int} {v : Int} (h : setOk N l = true) (hv : vB v N = true) (hm : ¬ v ∈ l) : setOk N (l ++ [v]) = true := by
  obtain ⟨h1, h2⟩ := setOk_all h
  have h3 := vB_iff hv
  unfold setOk
  rw [decide_eq_true_eq]
  refine ⟨fun x hx => ?_, ?_⟩
  · rw [List.mem_append, List.mem_singleton] at hx
    rcases hx with hx | rfl
    · exact h1 x hx
    · exact h3
  · rw [List.nodup_append]
    refine ⟨h2, by simp, fun a ha b hb => ?_⟩
    rw [List.mem_singleton] at hb
    subst hb
    rintro rfl
    exact hm ha
theorem setOk_miss {N : Int} {l : List Int} {k : Nat} {v : Int} (he : l[k]? = some v) (hv : vB v N = false) : setOk N l = false := by
  cases h : setOk N l with
  | false => rfl
  | true =>
    have := (setOk_all h).1 v (List.mem_of_getElem? he)
    rw [vB_t this] at hv
    cases hv
theorem setOk_dup {N : Int} {l : List Int} {k : Nat} {v : Int} (he : l[k]? = some v) (hm : v ∈ l.take k) : setOk N l = false := by
  cases h : setOk N l with
  | false => rfl
  | true =>
    have h2 := (setOk_all h).2
    have h3 : (l.take (k + 1)).Nodup := h2.sublist (List.take_sublist _ _)
    rw [List.take_add_one, he, List.nodup_append] at h3
    exact absurd rfl (h3.2.2 v hm v (by simp))
theorem take_snocV {l : List Int} {k : Nat} {x : Int} (h : l[k]? = some x) : l.take (k + 1) = l.take k ++ [x] := by rw [List.take_add_one, h]; rfl
def setsB (M : Nat) (l : List Int) : List Int := if setOk (M : Int) l = true then setL M l else []
theorem setsB_f {M : Nat} {l : List Int} (h : setOk (M : Int) l = false) : setsB M l = [] := by rw [setsB, if_neg (by rw [h]; decide)]
theorem setsB_t {M : Nat} {l : List Int} (h : setOk (M : Int) l = true) : setsB M l = setL M l := by rw [setsB, if_pos h]
theorem setL_cells (M u : Nat) (l : List Int) : (intCells (setL M l)).set u (.int .i64 1) = intCells (setL M (l ++ [(u : Int)])) := by rw [setL_snoc]; simp [intCells, List.map_set]

set_option maxHeartbeats 1000000 in
theorem l04Set_any (M : Nat) (A : Option Addr) (c : Nat) (l : List Int) (w : World) (hM0 : 0 < M) (hM6 : M ≤ 6) (hn : l.length ≤ 1048576) (hS : IntS w w.heap.size A l) :
    Calls Try.prog 66 #[.int .i64 (M : Int), .slice A l.length c] w (GivesIntsOk w (setsB M l) (setOk (M : Int) l)) := by
  have HS := Lib.hid hS
  have hmk := make_ints M (by omega)
  have HV := fun v w => Lib.hid (l01In_any v 0 ((M : Int) - 1) w)
  simp only [inB_vB] at HV
  clear hS
  go_enter Try.func66, Try.ntmps66
  go_wp2
  go_loopw [13] (fun i wr => ∃ k : Nat, k ≤ l.length ∧ i = .int .i64 k ∧ setOk (M : Int) (l.take k) = true ∧ Blk wr w.heap.size 3 (intCells (setL M (l.take k))).toArray ∧ Below w.heap.size w wr) (fun i _ => l.length - (intOf i).toNat)
  case atStart =>
    refine ⟨0, Nat.zero_le _, rfl, by simp [setOk], ?_, (Below.refl _ _).alloc (Nat.le_refl _) _⟩
    rw [List.take_zero, setL_nil]
    exact Blk.new w _ _
  case round =>
    obtain ⟨k, hk, rfl, hok, hblk, hb⟩ := hrel
    have HB := Lib.hid hblk
    have HO := Lib.hid hok
    clear hblk hok hmk
    by_cases hlt : k < l.length
    · obtain ⟨b1, o1, v, rfl, hb1, he, hc0⟩ := (HS.out.below hb).at_ hlt
      have hi0 : (0 : Int) ≤ (k : Int) := Int.natCast_nonneg _
      have hi1 : (k : Int) < (l.length : Int) := by omega
      have HVV := fun w => (HV v w)
      clear HV
      cases hv : vB v (M : Int) with
      | false =>
        have H := Lib.hid (setOk_miss he hv)
        rw [hv] at HVV
        clear he hv
        go_wp2_with fail
        refine (HVV _).out.mono ?_
        rintro e w' ⟨rfl, rfl⟩
        go_wp2
        go_ret2
        exact ⟨none, 0, by rw [setsB_f H.out, H.out]; rfl, by rw [setsB_f H.out]; exact OwnI.nil _ _ _, hb⟩
      | true =>
        obtain ⟨h0, h1⟩ := vB_iff hv
        rw [hv] at HVV
        obtain ⟨u, rfl⟩ : ∃ u : Nat, v = (u : Int) := ⟨v.toNat, by omega⟩
        have huM : u < M := by omega
        have hat := setL_at (l.take k) huM
        have hf0 := HB.out.frozen u
        by_cases hm : (u : Int) ∈ l.take k
        · have H := Lib.hid (setOk_dup (N := (M : Int)) he hm)
          rw [if_pos hm] at hat
          have hcl : wr.cell? ⟨w.heap.size, u, none⟩ = some (.int .i64 1) := by rw [HB.out.cell]; simp [intCells, hat]
          clear he hv hm hat
          go_wp2_with fail
          refine (HVV _).out.mono ?_
          rintro e w' ⟨rfl, rfl⟩
          go_wp2
          go_ret2
          exact ⟨none, 0, by rw [setsB_f H.out, H.out]; rfl, by rw [setsB_f H.out]; exact OwnI.nil _ _ _, hb⟩
        · have H := Lib.hid (setOk_snoc HO.out hv hm)
          rw [if_neg hm] at hat
          have hcl : wr.cell? ⟨w.heap.size, u, none⟩ = some (.int .i64 0) := by rw [HB.out.cell]; simp [intCells, hat]
          have HT := Lib.hid (take_snocV he)
          have hb2 := HB.out.set_ u (.int .i64 1)
          rw [List.setIfInBounds_toArray, setL_cells, ← HT.out] at hb2
          have HB2 := Lib.hid hb2
          have HO2 := Lib.hid (show setOk (M : Int) (l.take (k + 1)) = true by rw [HT.out]; exact H.out)
          clear he hv hm hat hb2
          go_wp2_with fail
          refine (HVV _).out.mono ?_
          rintro e w' ⟨rfl, rfl⟩
          go_wp2
          exact ⟨⟨k + 1, by omega, by go_num, HO2.out, HB2.out, hb.setCell (Nat.le_refl _) _⟩, by simp [intOf]; omega⟩
    · have HB2 := HB.out
      have HO2 := HO.out
      rw [List.take_of_length_le (by omega)] at HB2 HO2
      have HB3 := Lib.hid HB2
      have HO3 := Lib.hid HO2
      have HL := Lib.hid (setL_len M l)
      clear HB2 HO2
      go_wp2
      go_ret2
      exact ⟨some ⟨w.heap.size, 0, none⟩, M, by rw [setsB_t HO3.out, HL.out, HO3.out]; rfl, by rw [setsB_t HO3.out]; exact OwnI.of_blk HB3.out (Nat.le_refl _), hb⟩

/-- the marks of the program's array: which vertices have been taken -/
def tkC (l : List Int) : List Value := (List.range 6).map fun (v : Nat) => Value.bool (decide ((v : Int) ∈ l))
theorem tkC_nil : tkC [] = [.bool false, .bool false, .bool false, .bool false, .bool false, .bool false] := by simp [tkC, List.range_succ]
theorem tkC_at {u : Nat} (l : List Int) (h : u < 6) : (tkC l)[u]? = some (.bool (decide ((u : Int) ∈ l))) := by simp [tkC, h]
theorem tkC_set {u : Nat} (l : List Int) : (tkC l).set u (.bool true) = tkC (l ++ [(u : Int)]) := by
  apply List.ext_getElem?
  intro i
  by_cases hi : i < 6
  · rw [tkC_at _ hi]
    by_cases e : i = u
    · subst e
      rw [List.getElem?_set_self (by simp [tkC]; exact hi)]
      simp
    · rw [List.getElem?_set_ne (Ne.symm e), tkC_at _ hi]
      have : ¬ ((i : Int) = (u : Int)) := by omega
      simp [this]
  · rw [List.getElem?_eq_none (by simp [tkC]; omega), List.getElem?_eq_none (by simp [tkC]; omega)]
set_option maxHeartbeats 1000000 in
theorem isVertexSet_any (M n c : Nat) (A S : Option Addr) (cs : Nat) (l : List Int) (w : World) (hM6 : M ≤ 6) (hn : l.length ≤ 1048576) (hS : IntS w w.heap.size S l) :
    Calls Try.prog 67 #[.agg #[.int .i64 (M : Int), .slice A n c], .slice S l.length cs] w fun e w' => e = .returned (.bool (setOk (M : Int) l)) ∧ Below w.heap.size w w' := by
  have HS := Lib.hid hS
  have HV := fun v w => Lib.hid (hasVertex_any (M : Int) (.slice A n c) v w ⟨_, _, _, rfl⟩)
  clear hS
  have hb0 : Below w.heap.size w (w.alloc (Obj.cells #[.int .i64 (M : Int), .slice A n c] 37)) := (Below.refl _ _).alloc (Nat.le_refl _) _
  go_enter Try.func67, Try.ntmps67
  go_wp2
  go_loopw [10] (fun i wr => ∃ k : Nat, k ≤ l.length ∧ i = .int .i64 k ∧ setOk (M : Int) (l.take k) = true ∧ Blk wr (w.heap.size + 1) 80 (tkC (l.take k)).toArray ∧ Blk wr w.heap.size 37 #[.int .i64 (M : Int), .slice A n c] ∧ Below w.heap.size w wr) (fun i _ => l.length - (intOf i).toNat)
  case atStart =>
    refine ⟨0, Nat.zero_le _, rfl, by simp [setOk], ?_, (Blk.new w _ _).alloc _, hb0.alloc (by simp) _⟩
    have h := Blk.new (w.alloc (Obj.cells #[.int .i64 (M : Int), .slice A n c] 37)) 80 (tkC []).toArray
    rw [World.size_alloc] at h
    rw [List.take_zero]
    rw [tkC_nil] at h ⊢
    exact h
  case round =>
    obtain ⟨k, hk, rfl, hok, hblk, hgr, hb⟩ := hrel
    have HB := Lib.hid hblk
    have HO := Lib.hid hok
    have HG := Lib.hid hgr
    have c0 : wr.cell? ⟨w.heap.size, 0, none⟩ = some (.int .i64 (M : Int)) := by rw [hgr.cell]; rfl
    have c1 : wr.cell? ⟨w.heap.size, 1, none⟩ = some (.slice A n c) := by rw [hgr.cell]; rfl
    have hbl := hblk.lt
    clear hblk hok hgr
    by_cases hlt : k < l.length
    · obtain ⟨b1, o1, v, rfl, hb1, he, hc0⟩ := (HS.out.below hb).at_ hlt
      have hi0 : (0 : Int) ≤ (k : Int) := Int.natCast_nonneg _
      have hi1 : (k : Int) < (l.length : Int) := by omega
      have HVV := fun w => (HV v w)
      clear HV
      cases hv : vB v (M : Int) with
      | false =>
        have H := Lib.hid (setOk_miss he hv)
        rw [hv] at HVV
        clear he hv
        go_wp2_with fail
        refine (HVV _).out.mono ?_
        rintro e w2 ⟨rfl, hb2⟩
        have hb3 := hb.trans (hb2.mono hb.size)
        clear hb2 c0 c1 hc0
        go_wp2
        go_ret
        exact ⟨ret_boolE H.out.symm, hb3⟩
      | true =>
        obtain ⟨h0, h1⟩ := vB_iff hv
        rw [hv] at HVV
        obtain ⟨u, rfl⟩ : ∃ u : Nat, v = (u : Int) := ⟨v.toNat, by omega⟩
        have hu6 : u < 6 := by omega
        have hu7 : (u : Int) < 6 := by omega
        have hat := tkC_at (l.take k) hu6
        by_cases hm : (u : Int) ∈ l.take k
        · have H := Lib.hid (setOk_dup (N := (M : Int)) he hm)
          rw [decide_eq_true hm] at hat
          clear he hv hm
          go_wp2_with fail
          refine (HVV _).out.mono ?_
          rintro e w2 ⟨rfl, hb2⟩
          have hb3 := hb.trans (hb2.mono hb.size)
          have hcl : w2.cell? ⟨w.heap.size + 1, u, none⟩ = some (.bool true) := by rw [(HB.out.below hb2 hbl).cell]; simp [hat]
          clear hb2 c0 c1 hc0 hat
          go_wp2
          go_ret
          exact ⟨ret_boolE H.out.symm, hb3⟩
        · have H := Lib.hid (setOk_snoc HO.out hv hm)
          rw [decide_eq_false hm] at hat
          have HT := Lib.hid (take_snocV he)
          have HO2 := Lib.hid (show setOk (M : Int) (l.take (k + 1)) = true by rw [HT.out]; exact H.out)
          clear he hv hm
          go_wp2_with fail
          refine (HVV _).out.mono ?_
          rintro e w2 ⟨rfl, hb2⟩
          have hb3 := hb.trans (hb2.mono hb.size)
          have hbk2 := HB.out.below hb2 hbl
          have hgr2 := HG.out.below hb2 HG.out.lt
          have hcl : w2.cell? ⟨w.heap.size + 1, u, none⟩ = some (.bool false) := by rw [hbk2.cell]; simp [hat]
          have hf0 := hbk2.frozen u
          have hb4 := hbk2.set_ u (.bool true)
          rw [List.setIfInBounds_toArray, tkC_set, ← HT.out] at hb4
          have HB4 := Lib.hid hb4
          have HG4 := Lib.hid (hgr2.far (p := ⟨w.heap.size + 1, u, none⟩) (by simp only; omega) (.bool true))
          clear hb2 c0 c1 hc0 hat hbk2 hgr2 hb4
          go_wp2
          exact ⟨⟨k + 1, by omega, by go_num, HO2.out, HB4.out, HG4.out, hb3.setCell (by simp only; omega) _⟩, by simp [intOf]; omega⟩
    · have HO2 := HO.out
      rw [List.take_of_length_le (by omega)] at HO2
      have HO3 := Lib.hid HO2
      clear HO2
      go_wp2
      go_ret
      exact ⟨ret_boolE HO3.out.symm, hb⟩
end Go.Proofs.Ytkmbdclhjdbhpaa
