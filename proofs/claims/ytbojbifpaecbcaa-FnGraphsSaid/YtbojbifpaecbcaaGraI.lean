/- The declarations of other texts that this seat needs (made by tools/thin.py). -/
import Derived.RegionTactic
import Derived.ChangeAlike
import Derived.Laws.StructEq
import Derived.Test.YtbojbifpaecbcaaBF
import Derived.Test.YtbojbifpaecbcaaBC
import Derived.Test.YtbojbifpaecbcaaBB
import Derived.Test.YtbojbifpaecbcaaDelE
import Derived.Test.YtbojbifpaecbcaaGEdge
import Derived.Test.YtbojbifpaecbcaaBA
namespace Go.Proofs.Ytbojbifpaecbcaa
open Go.RowKit Go.Maps

def touch (v : Int) (e : Int × Int) : Bool := (e.1 == v) || (e.2 == v)
def valB (N : Int) (es : List (Int × Int)) (v : Int) : Int := if vB v N = true then (es.filter (touch v)).length else 0
theorem valB_no {N : Int} {es : List (Int × Int)} {v : Int} (h : vB v N = false) : valB N es v = 0 := by rw [valB, if_neg (by rw [h]; simp)]
theorem valB_yes {N : Int} {es : List (Int × Int)} {v : Int} (h : vB v N = true) : valB N es v = (es.filter (touch v)).length := by rw [valB, if_pos h]
set_option maxRecDepth 100000 in
theorem cm_look {w : World} {B : Nat} {es : List (Int × Int)} {e : Int × Int} (h : CM w B es) (he : WfE e) :
    (Instr.lookup 66 (.map (some B)) (.agg #[.int .i64 e.1, .int .i64 e.2]) false).run Try.prog w = .ok (.int .i64 (es.count e)) w := by
  obtain ⟨n, D, hown, hn, hc⟩ := h
  obtain ⟨c, hlook, hat, _⟩ := hown.lookup_int edgeKeyed Try.underlying66 Try.underlying3 (zeroInt w) (keyOf_edge he)
  have hcc : c = (es.count e : Int) := by
    have := hc.2.1 e he
    rw [hat] at this
    injection this with this
    injection this
  subst hcc
  exact hlook

set_option maxHeartbeats 1000000 in
theorem implMult_lt (N : Int) (A : Option Addr) (c : Nat) (es : List (Int × Int)) (a b : Int) (w : World) (hn : es.length ≤ 1048576) (hw : ∀ e ∈ es, WfE e) (hwe : WfE (a, b)) (ha : vB a N = true) (hb : vB b N = true) (hab : a < b) (hE : EdgeS w w.heap.size A es) :
    Calls Try.prog 14 #[.agg #[.int .i64 N, .slice A es.length c], .int .i64 a, .int .i64 b] w fun e w' => e = .returned (.int .i64 (es.count (a, b))) ∧ Below w.heap.size w w' := by
  have HE := Lib.hid hE
  have HW := Lib.hid hw
  have HQ := Lib.hid hwe
  clear hE hw hwe
  have hne : (a == b) = false := by rw [beq_eq_false_iff_ne]; omega
  have B0 := (Below.refl w.heap.size w).alloc (Nat.le_refl _) (.cells #[.int .i64 N, .slice A es.length c] 25)
  go_enter Try.func14, Try.ntmps14
  go_wp2_with fail
  refine (hasVertex_any _ _ _ _ ⟨_, _, _, rfl⟩).mono ?_
  rintro e w1 ⟨rfl, hb1⟩
  have hk1 := (Blk.new w 25 #[.int .i64 N, .slice A es.length c]).below hb1 (by simp)
  have B1 := B0.trans (hb1.mono B0.size)
  have c0 : w1.cell? ⟨w.heap.size, 0, none⟩ = some (.int .i64 N) := by rw [hk1.cell]; rfl
  have c1 : w1.cell? ⟨w.heap.size, 1, none⟩ = some (.slice A es.length c) := by rw [hk1.cell]; rfl
  clear hb1
  go_wp2_with fail
  refine (hasVertex_any _ _ _ _ ⟨_, _, _, rfl⟩).mono ?_
  rintro e w2 ⟨rfl, hb2⟩
  have hk2 := hk1.below hb2 hk1.lt
  have B2 := B1.trans (hb2.mono B1.size)
  clear c0 c1 hb2 hk1 B1
  have c0 : w2.cell? ⟨w.heap.size, 0, none⟩ = some (.int .i64 N) := by rw [hk2.cell]; rfl
  have c1 : w2.cell? ⟨w.heap.size, 1, none⟩ = some (.slice A es.length c) := by rw [hk2.cell]; rfl
  clear hk2
  go_wp2_with fail
  refine (countEdges_any _ _ _ _ _ hn HW.out (HE.out.up_ B2)).mono ?_
  rintro e w3 ⟨rfl, hcm3, hb3⟩
  have B3 := B2.trans (hb3.mono B2.size)
  have HC3 := Lib.hid hcm3
  clear hcm3 hb3 c0 c1
  go_wp2_with fail
  refine (edgeBetween_lt _ _ _ hab).mono ?_
  rintro e w4 ⟨rfl, hb4⟩
  have q := cm_look (HC3.out.below hb4) HQ.out
  have B4 := B3.trans (hb4.mono B3.size)
  go_wp2
  go_ret
  exact ⟨rfl, B4⟩

set_option maxHeartbeats 1000000 in
theorem implMult_gt (N : Int) (A : Option Addr) (c : Nat) (es : List (Int × Int)) (a b : Int) (w : World) (hn : es.length ≤ 1048576) (hw : ∀ e ∈ es, WfE e) (hwe : WfE (b, a)) (ha : vB a N = true) (hb : vB b N = true) (hab : b < a) (hE : EdgeS w w.heap.size A es) :
    Calls Try.prog 14 #[.agg #[.int .i64 N, .slice A es.length c], .int .i64 a, .int .i64 b] w fun e w' => e = .returned (.int .i64 (es.count (b, a))) ∧ Below w.heap.size w w' := by
  have HE := Lib.hid hE
  have HW := Lib.hid hw
  have HQ := Lib.hid hwe
  clear hE hw hwe
  have hne : (a == b) = false := by rw [beq_eq_false_iff_ne]; omega
  have B0 := (Below.refl w.heap.size w).alloc (Nat.le_refl _) (.cells #[.int .i64 N, .slice A es.length c] 25)
  go_enter Try.func14, Try.ntmps14
  go_wp2_with fail
  refine (hasVertex_any _ _ _ _ ⟨_, _, _, rfl⟩).mono ?_
  rintro e w1 ⟨rfl, hb1⟩
  have hk1 := (Blk.new w 25 #[.int .i64 N, .slice A es.length c]).below hb1 (by simp)
  have B1 := B0.trans (hb1.mono B0.size)
  have c0 : w1.cell? ⟨w.heap.size, 0, none⟩ = some (.int .i64 N) := by rw [hk1.cell]; rfl
  have c1 : w1.cell? ⟨w.heap.size, 1, none⟩ = some (.slice A es.length c) := by rw [hk1.cell]; rfl
  clear hb1
  go_wp2_with fail
  refine (hasVertex_any _ _ _ _ ⟨_, _, _, rfl⟩).mono ?_
  rintro e w2 ⟨rfl, hb2⟩
  have hk2 := hk1.below hb2 hk1.lt
  have B2 := B1.trans (hb2.mono B1.size)
  clear c0 c1 hb2 hk1 B1
  have c0 : w2.cell? ⟨w.heap.size, 0, none⟩ = some (.int .i64 N) := by rw [hk2.cell]; rfl
  have c1 : w2.cell? ⟨w.heap.size, 1, none⟩ = some (.slice A es.length c) := by rw [hk2.cell]; rfl
  clear hk2
  go_wp2_with fail
  refine (countEdges_any _ _ _ _ _ hn HW.out (HE.out.up_ B2)).mono ?_
  rintro e w3 ⟨rfl, hcm3, hb3⟩
  have B3 := B2.trans (hb3.mono B2.size)
  have HC3 := Lib.hid hcm3
  clear hcm3 hb3 c0 c1
  go_wp2_with fail
  refine (edgeBetween_gt _ _ _ hab).mono ?_
  rintro e w4 ⟨rfl, hb4⟩
  have q := cm_look (HC3.out.below hb4) HQ.out
  have B4 := B3.trans (hb4.mono B3.size)
  go_wp2
  go_ret
  exact ⟨rfl, B4⟩

set_option maxHeartbeats 1000000 in
theorem implMult_no (N : Int) (A : Option Addr) (c : Nat) (es : List (Int × Int)) (a b : Int) (w : World) (h : a = b ∨ (a ≠ b ∧ vB a N = false) ∨ (a ≠ b ∧ vB a N = true ∧ vB b N = false)) :
    Calls Try.prog 14 #[.agg #[.int .i64 N, .slice A es.length c], .int .i64 a, .int .i64 b] w fun e w' => e = .returned (.int .i64 0) ∧ Below w.heap.size w w' := by
  have B0 := (Below.refl w.heap.size w).alloc (Nat.le_refl _) (.cells #[.int .i64 N, .slice A es.length c] 25)
  rcases h with hab | ⟨hab, ha⟩ | ⟨hab, ha, hb⟩
  · have hne : (a == b) = true := by rw [beq_iff_eq]; exact hab
    clear hab
    go_enter Try.func14, Try.ntmps14
    go_wp2
    go_ret
    exact ⟨rfl, B0⟩
  · have hne : (a == b) = false := by rw [beq_eq_false_iff_ne]; exact hab
    clear hab
    go_enter Try.func14, Try.ntmps14
    go_wp2_with fail
    refine (hasVertex_any _ _ _ _ ⟨_, _, _, rfl⟩).mono ?_
    rintro e w1 ⟨rfl, hb1⟩
    go_wp2
    go_ret
    exact ⟨rfl, B0.trans (hb1.mono B0.size)⟩
  · have hne : (a == b) = false := by rw [beq_eq_false_iff_ne]; exact hab
    clear hab
    go_enter Try.func14, Try.ntmps14
    go_wp2_with fail
    refine (hasVertex_any _ _ _ _ ⟨_, _, _, rfl⟩).mono ?_
    rintro e w1 ⟨rfl, hb1⟩
    have hk1 := (Blk.new w 25 #[.int .i64 N, .slice A es.length c]).below hb1 (by simp)
    have c0 : w1.cell? ⟨w.heap.size, 0, none⟩ = some (.int .i64 N) := by rw [hk1.cell]; rfl
    have c1 : w1.cell? ⟨w.heap.size, 1, none⟩ = some (.slice A es.length c) := by rw [hk1.cell]; rfl
    have B1 := B0.trans (hb1.mono B0.size)
    clear hb1
    go_wp2_with fail
    refine (hasVertex_any _ _ _ _ ⟨_, _, _, rfl⟩).mono ?_
    rintro e w2 ⟨rfl, hb2⟩
    have B2 := B1.trans (hb2.mono B1.size)
    go_wp2
    go_ret
    exact ⟨rfl, B2⟩
theorem wfInt {n : Int} (lo : -9223372036854775808 ≤ n) (hi : n ≤ 9223372036854775807) : (Lit.int .i64 n).wf = true := WalkArith.wf_i64 ⟨lo, hi⟩
theorem implMultU (N : Int) (A : Option Addr) (c : Nat) (es : List (Int × Int)) (a b : Int) (w : World) (hn : es.length ≤ 1048576) (hw : ∀ e ∈ es, WfE e) (lo1 : -9223372036854775808 ≤ a) (hi1 : a ≤ 9223372036854775807) (lo2 : -9223372036854775808 ≤ b) (hi2 : b ≤ 9223372036854775807) (hE : EdgeS w w.heap.size A es) :
    Calls Try.prog 14 #[.agg #[.int .i64 N, .slice A es.length c], .int .i64 a, .int .i64 b] w fun e w' => e = .returned (.int .i64 (multB N es a b)) ∧ Below w.heap.size w w' := by
  by_cases hab : a = b
  · rw [multB_no (.inr (.inr hab))]; exact implMult_no N A c es a b w (.inl hab)
  · cases ha : vB a N with
    | false => rw [multB_no (.inl ha)]; exact implMult_no N A c es a b w (.inr (.inl ⟨hab, ha⟩))
    | true =>
      cases hb : vB b N with
      | false => rw [multB_no (.inr (.inl hb))]; exact implMult_no N A c es a b w (.inr (.inr ⟨hab, ha, hb⟩))
      | true =>
        rw [multB_yes ha hb hab]
        by_cases h : a < b
        · rw [show min a b = a by omega, show max a b = b by omega]; exact implMult_lt N A c es a b w hn hw ⟨wfInt lo1 hi1, wfInt lo2 hi2⟩ ha hb h hE
        · rw [show min a b = b by omega, show max a b = a by omega]; exact implMult_gt N A c es a b w hn hw ⟨wfInt lo2 hi2, wfInt lo1 hi1⟩ ha hb (by omega) hE
theorem implMultL (N : Int) (A : Option Addr) (c : Nat) (es : List (Int × Int)) (a b : Int) (w : World) (hn : es.length ≤ 1048576) (hw : ∀ e ∈ es, (Lit.int .i64 e.1).wf = true ∧ (Lit.int .i64 e.2).wf = true) (_ : -9223372036854775808 ≤ N) (_ : N ≤ 9223372036854775807)
    (l1 : -9223372036854775808 ≤ a) (h1 : a ≤ 9223372036854775807) (l2 : -9223372036854775808 ≤ b) (h2 : b ≤ 9223372036854775807) (hE : EdgeS w w.heap.size A es) :
    Calls Try.prog 14 #[.agg #[.int .i64 N, .slice A es.length c], .int .i64 a, .int .i64 b] w fun e w' => e = .returned (.int .i64 (multB N es a b)) ∧ Below w.heap.size w w' := implMultU N A c es a b w hn hw l1 h1 l2 h2 hE
theorem sum_step {es : List (Int × Int)} {left : Int × Int → Bool} {e : Int × Int} {v : Int} (hl : left e = true) :
    (es.filter (fun f => touch v f && !(left f && !(f == e)))).length = (es.filter (fun f => touch v f && !left f)).length + if touch v e = true then es.count e else 0 := by
  induction es with
  | nil => simp
  | cons f l ih =>
    rw [List.filter_cons, List.filter_cons, List.count_cons]
    by_cases hfe : f = e
    · subst hfe
      have p1 : (touch v f && !(left f && !(f == f))) = touch v f := by simp
      have p2 : (touch v f && !left f) = false := by simp [hl]
      rw [p1, p2]
      cases ht : touch v f with
      | true =>
        rw [ht] at ih
        simp only [if_true, List.length_cons, beq_self_eq_true, Bool.false_eq_true, if_false] at ih ⊢
        omega
      | false =>
        rw [ht] at ih
        simp only [Bool.false_eq_true, if_false] at ih ⊢
        exact ih
    · have p3 : (f == e) = false := by simp [hfe]
      have p4 : (touch v f && !(left f && !(f == e))) = (touch v f && !left f) := by rw [p3]; simp
      rw [p4, p3]
      simp only [Bool.false_eq_true, if_false, Nat.add_zero]
      cases hc : (touch v f && !left f) with
      | true =>
        simp only [if_true, List.length_cons]
        omega
      | false =>
        simp only [Bool.false_eq_true, if_false]
        exact ih
theorem sum_end {es : List (Int × Int)} {left : Int × Int → Bool} {v : Int} (h : ∀ e ∈ es, left e = false) : (es.filter (fun f => touch v f && !left f)).length = (es.filter (touch v)).length := by
  congr 1
  apply List.filter_congr
  intro e he
  rw [h e he]
  simp
theorem sum_start {es : List (Int × Int)} {v : Int} : (es.filter (fun f => touch v f && !es.contains f)).length = 0 := by
  rw [List.length_eq_zero_iff, List.filter_eq_nil_iff]
  intro e he
  simp [he]

set_option maxHeartbeats 1000000 in
theorem implVal_yes (N : Int) (A : Option Addr) (c : Nat) (es : List (Int × Int)) (v : Int) (w : World) (hn : es.length ≤ 1048576) (hw : ∀ e ∈ es, WfE e) (ha : vB v N = true) (hE : EdgeS w w.heap.size A es) :
    Calls Try.prog 15 #[.agg #[.int .i64 N, .slice A es.length c], .int .i64 v] w fun e w' => e = .returned (.int .i64 (es.filter (touch v)).length) ∧ Below w.heap.size w w' := by
  have HE := Lib.hid hE
  have HW := Lib.hid hw
  clear hE hw
  go_enter Try.func15, Try.ntmps15
  go_wp2_with fail
  refine (hasVertex_any _ _ _ _ ⟨_, _, _, rfl⟩).mono ?_
  rintro e w1 ⟨rfl, hb1⟩
  have hk1 := (Blk.new w 25 #[.int .i64 N, .slice A es.length c]).below hb1 (by simp)
  have B1 := ((Below.refl w.heap.size w).alloc (Nat.le_refl _) (.cells #[.int .i64 N, .slice A es.length c] 25)).trans (hb1.mono (by simp))
  have c0 : w1.cell? ⟨w.heap.size, 0, none⟩ = some (.int .i64 N) := by rw [hk1.cell]; rfl
  have c1 : w1.cell? ⟨w.heap.size, 1, none⟩ = some (.slice A es.length c) := by rw [hk1.cell]; rfl
  clear hb1 hk1
  go_wp2_with fail
  refine (countEdges_any _ _ _ _ _ hn HW.out (HE.out.up_ B1)).mono ?_
  rintro e w2 ⟨rfl, hcm2, hb2⟩
  have B2 := B1.trans (hb2.mono B1.size)
  have hsz1 := B1.size
  have HC2 := Lib.hid hcm2
  clear hcm2 hb2 c0 c1
  go_wp2_with (at_range; refine wp_range_edges _ rfl _ rfl _ _ rfl HC2.out ?_; intro w3 cnt0 hrg0 hb3 hsz3)
  go_frame
  go_loopw [5] (fun n wr => ∃ (left : Int × Int → Bool) (cnt : Nat), RG wr (w1.heap.size + 1) w2.heap.size es left cnt ∧ n = .int .i64 (es.filter (fun f => touch v f && !left f)).length ∧ Below w.heap.size w wr)
    (fun _ wr => wr.rangeLeft (w1.heap.size + 1) w2.heap.size)
  case atStart => exact ⟨_, cnt0, hrg0, by rw [sum_start]; rfl, B2.trans (hb3.mono B2.size)⟩
  case round =>
    obtain ⟨left, cnt, hrg, rfl, hbw⟩ := hrel
    have HR := Lib.hid hrg
    clear hrg hrg0
    go_wp2_with (at_next; refine wp_next_edges _ rfl _ rfl _ _ es left cnt rfl HR.out ?_ ?_)
    · intro hdone
      have HA := Lib.hid (sum_end (v := v) (fun e he => hdone e.1 e.2 (HW.out e he)))
      clear hdone
      go_wp2
      go_ret
      exact ⟨ret_intE (congrArg Int.ofNat HA.out), hbw⟩
    · intro x y w4 cnt4 hwe hle hrg4 hlt4 hg4 hs4 hen
      have hle' : left (x, y) = true := by assumption
      have HS := Lib.hid (sum_step (es := es) (v := v) hle')
      have HR4 := Lib.hid hrg4
      have HL := Lib.hid hrg4.left_eq
      have HL2 := Lib.hid HR.out.left_eq
      have B4 : Below w.heap.size w w4 := hbw.grown hg4 hbw.size (fun k hk => by cases hk; exact B2.size)
      have z0 : (0 : Int) ≤ ((es.filter (fun f => touch v f && !left f)).length : Int) := Int.natCast_nonneg _
      have z1 : ((es.filter (fun f => touch v f && !left f)).length : Int) ≤ 1048576 := by have := List.length_filter_le (fun f => touch v f && !left f) es; omega
      have z2 : (es.count (x, y) : Int) ≤ 1048576 := by have h1 : es.count (x, y) ≤ es.length := List.count_le_length; omega
      have z3 : (0 : Int) ≤ (es.count (x, y) : Int) := Int.natCast_nonneg _
      clear hrg4 hle
      by_cases h1 : x = v
      · have t1 : (x == v) = true := by rw [beq_iff_eq]; exact h1
        have HQ := HS.out
        rw [if_pos (by simp [touch, h1])] at HQ
        have HQ2 := Lib.hid HQ
        clear HQ h1
        go_wp2
        refine ⟨⟨_, cnt4, HR4.out.alloc _, by rw [HQ2.out]; go_num, B4.alloc B4.size _⟩, ?_⟩
        rw [(HR4.out.alloc _).left_eq, HL2.out]
        exact hlt4
      · have t1 : (x == v) = false := by rw [beq_eq_false_iff_ne]; exact h1
        by_cases h2 : y = v
        · have t2 : (y == v) = true := by rw [beq_iff_eq]; exact h2
          have HQ := HS.out
          rw [if_pos (by simp [touch, h2])] at HQ
          have HQ2 := Lib.hid HQ
          clear HQ h1 h2
          go_wp2
          refine ⟨⟨_, cnt4, HR4.out.alloc _, by rw [HQ2.out]; go_num, B4.alloc B4.size _⟩, ?_⟩
          rw [(HR4.out.alloc _).left_eq, HL2.out]
          exact hlt4
        · have t2 : (y == v) = false := by rw [beq_eq_false_iff_ne]; exact h2
          have HQ := HS.out
          rw [if_neg (by simp [touch, h1, h2])] at HQ
          have HQ2 := Lib.hid HQ
          clear HQ h1 h2
          go_wp2
          refine ⟨⟨_, cnt4, HR4.out.alloc _, by rw [HQ2.out]; rfl, B4.alloc B4.size _⟩, ?_⟩
          rw [(HR4.out.alloc _).left_eq, HL2.out]
          exact hlt4

set_option maxHeartbeats 1000000 in
theorem implVal_no (N : Int) (A : Option Addr) (c : Nat) (es : List (Int × Int)) (v : Int) (w : World) (ha : vB v N = false) :
    Calls Try.prog 15 #[.agg #[.int .i64 N, .slice A es.length c], .int .i64 v] w fun e w' => e = .returned (.int .i64 0) ∧ Below w.heap.size w w' := by
  have B0 := (Below.refl w.heap.size w).alloc (Nat.le_refl _) (.cells #[.int .i64 N, .slice A es.length c] 25)
  go_enter Try.func15, Try.ntmps15
  go_wp2_with fail
  refine (hasVertex_any _ _ _ _ ⟨_, _, _, rfl⟩).mono ?_
  rintro e w1 ⟨rfl, hb1⟩
  go_wp2
  go_ret
  exact ⟨rfl, B0.trans (hb1.mono B0.size)⟩
theorem implValL (N : Int) (A : Option Addr) (c : Nat) (es : List (Int × Int)) (v : Int) (w : World) (hn : es.length ≤ 1048576) (hw : ∀ e ∈ es, (Lit.int .i64 e.1).wf = true ∧ (Lit.int .i64 e.2).wf = true) (_ : -9223372036854775808 ≤ N) (_ : N ≤ 9223372036854775807)
    (_ : -9223372036854775808 ≤ v) (_ : v ≤ 9223372036854775807) (hE : EdgeS w w.heap.size A es) :
    Calls Try.prog 15 #[.agg #[.int .i64 N, .slice A es.length c], .int .i64 v] w fun e w' => e = .returned (.int .i64 (valB N es v)) ∧ Below w.heap.size w w' := by
  cases h : vB v N with
  | false => rw [valB_no h]; exact implVal_no N A c es v w h
  | true => rw [valB_yes h]; exact implVal_yes N A c es v w hn hw h hE
open Go.RowKit

theorem QOwn.below {w w' : World} {base : Nat} {v : Value} {q : List Int} (h : QOwn w base v q) (hb : Below w.heap.size w w') : QOwn w' base v q :=
  World.ownsRow.kept h (row := none) ⟨hb.os, hb.tape, hb.output, hb.size, fun i hi _ => hb.block i hi⟩ (Classical.em _)
/-- k is the distance of u from v -/
def IsDist (es : List (Int × Int)) (v u : Int) (k : Nat) : Prop := Near es v k u ∧ ∀ k', k' < k → ¬ Near es v k' u
theorem IsDist.same {es : List (Int × Int)} {v u : Int} {j k : Nat} (h : IsDist es v u j) (g : IsDist es v u k) : j = k := by
  rcases Nat.lt_trichotomy j k with l | l | l
  · exact absurd h.1 (g.2 j l)
  · exact l
  · exact absurd g.1 (h.2 k l)
theorem least_near {es : List (Int × Int)} {v u : Int} : ∀ k, Near es v k u → ∃ m, IsDist es v u m := by
  intro k
  induction k using Nat.strongRecOn with
  | ind k ih =>
    intro h
    rcases Classical.em (∃ j, j < k ∧ Near es v j u) with ⟨j, hj, hn⟩ | hno
    · exact ih j hj hn
    · exact ⟨k, h, fun j hj hn => hno ⟨j, hj, hn⟩⟩
theorem Near.trans {es : List (Int × Int)} {a b c : Int} {j k : Nat} (h : Near es a j b) (g : Near es b k c) : Near es a (j + k) c := by
  induction g with
  | start => exact h
  | stay _ ih => exact ih.stay
  | step _ ht ih => exact .step ih ht
theorem Near.symm {es : List (Int × Int)} {a b : Int} {k : Nat} (h : Near es a k b) : Near es b k a := by
  induction h with
  | start => exact .start
  | stay _ ih => exact ih.stay
  | step _ ht ih =>
    have h1 : Near es _ 1 _ := .step .start ht.symm
    have := h1.trans ih
    rwa [Nat.add_comm] at this
theorem Conn.from_ {N : Int} {es : List (Int × Int)} (h : Conn N es) {v u : Int} (hv : 0 ≤ v ∧ v < N) (hu : 0 ≤ u ∧ u < N) : ∃ k, Near es v k u := by
  obtain ⟨i, hi⟩ := h v hv.1 hv.2
  obtain ⟨j, hj⟩ := h u hu.1 hu.2
  exact ⟨_, hi.symm.trans hj⟩
/-- the distance, where there is a way -/
noncomputable def dist (es : List (Int × Int)) (v u : Int) : Nat := open Classical in if h : ∃ k, IsDist es v u k then Classical.choose h else 0
theorem dist_eq {es : List (Int × Int)} {v u : Int} {k : Nat} (h : IsDist es v u k) : dist es v u = k := by
  have hx : ∃ k, IsDist es v u k := ⟨k, h⟩
  unfold dist
  rw [dif_pos hx]
  exact (Classical.choose_spec hx).same h
section
variable {N : Int} {es : List (Int × Int)} {v : Int}
theorem dist_ok (hc : Conn N es) (hv : 0 ≤ v ∧ v < N) {u : Int} (hu : 0 ≤ u ∧ u < N) : IsDist es v u (dist es v u) := by
  obtain ⟨k, hk⟩ := hc.from_ hv hu
  obtain ⟨m, hm⟩ := least_near k hk
  rw [dist_eq hm]
  exact hm
theorem dist_self : dist es v v = 0 := dist_eq ⟨.start, fun _ h => absurd h (by omega)⟩
theorem dist_zero (hc : Conn N es) (hv : 0 ≤ v ∧ v < N) {u : Int} (hu : 0 ≤ u ∧ u < N) (h : dist es v u = 0) : u = v := by
  have := (dist_ok hc hv hu).1
  rw [h] at this
  exact near_zero this
theorem dist_step (hc : Conn N es) (hv : 0 ≤ v ∧ v < N) {a b : Int} (ha : 0 ≤ a ∧ a < N) (hb : 0 ≤ b ∧ b < N) (ht : Touch es a b) : dist es v b ≤ dist es v a + 1 := by
  rcases Nat.lt_or_ge (dist es v a + 1) (dist es v b) with h | h
  · exact absurd (.step (dist_ok hc hv ha).1 ht) ((dist_ok hc hv hb).2 _ h)
  · exact h
theorem dist_pred (hE : edgesB N es = true) (hc : Conn N es) (hv : 0 ≤ v ∧ v < N) {u : Int} (hu : 0 ≤ u ∧ u < N) {k : Nat} (h : dist es v u = k + 1) : ∃ z, (0 ≤ z ∧ z < N) ∧ Touch es z u ∧ dist es v z = k := by
  have hd := dist_ok hc hv hu
  rw [h] at hd
  obtain ⟨h1, h2⟩ := hd
  cases h1 with
  | stay g => exact absurd g (h2 k (by omega))
  | step g ht =>
    rename_i a
    have ha := touch_in hE ht.symm
    refine ⟨a, ha, ht, ?_⟩
    have h3 := dist_step hc hv ha hu ht
    rcases Nat.lt_or_ge k (dist es v a) with l | l
    · exact absurd g ((dist_ok hc hv ha).2 k l)
    · omega

/-- the queue, at its place k -/
structure BQ (N : Int) (es : List (Int × Int)) (v : Int) (q : List Int) (k : Nat) : Prop where
  head : q[0]? = some v
  nodup : q.Nodup
  bound : ∀ x ∈ q, 0 ≤ x ∧ x < N
  mono : ∀ (i j : Nat) (x y : Int), i ≤ j → q[i]? = some x → q[j]? = some y → dist es v x ≤ dist es v y
  top : ∀ x, q[k]? = some x → ∀ y ∈ q, dist es v y ≤ dist es v x + 1
  done : ∀ (j : Nat) (x : Int), j < k → q[j]? = some x → ∀ b, Touch es x b → b ∈ q
  low : ∀ x, q[k]? = some x → ∀ u, 0 ≤ u → u < N → dist es v u < dist es v x → ∃ i, i < k ∧ q[i]? = some u
theorem BQ.start (hv : 0 ≤ v ∧ v < N) : BQ N es v [v] 0 where
  head := rfl
  nodup := by simp
  bound := fun x hx => by simp at hx; subst hx; exact hv
  mono := fun i j x y _ hx hy => by
    have h1 : x ∈ [v] := List.mem_of_getElem? hx
    have h2 : y ∈ [v] := List.mem_of_getElem? hy
    simp at h1 h2
    rw [h1, h2]
    exact Nat.le_refl _
  top := fun x hx y hy => by
    have h1 : x ∈ [v] := List.mem_of_getElem? hx
    simp at h1 hy
    rw [h1, hy]
    omega
  done := fun j x h => absurd h (by omega)
  low := fun x hx u _ _ h => by
    have h1 : x ∈ [v] := List.mem_of_getElem? hx
    simp at h1
    rw [h1, dist_self] at h
    omega
theorem BQ.vin {q : List Int} {k : Nat} (h : BQ N es v q k) : v ∈ q := List.mem_of_getElem? h.head
theorem BQ.new {q : List Int} {k : Nat} (h : BQ N es v q k) (hE : edgesB N es = true) (hc : Conn N es) (hv : 0 ≤ v ∧ v < N) {x y : Int} (hx : q[k]? = some x) (ht : Touch es x y) (hy : y ∉ q) : dist es v y = dist es v x + 1 := by
  have hxr := h.bound x (List.mem_of_getElem? hx)
  have hyr := touch_in hE ht
  have h1 := dist_step hc hv hxr hyr ht
  rcases Nat.lt_or_ge (dist es v x) (dist es v y) with l | l
  · omega
  · exfalso
    cases hd : dist es v y with
    | zero => exact hy ((dist_zero hc hv hyr hd) ▸ h.vin)
    | succ m =>
      obtain ⟨z, hz, htz, hdz⟩ := dist_pred hE hc hv hyr hd
      obtain ⟨i, hi, hqi⟩ := h.low x hx z hz.1 hz.2 (by omega)
      exact hy (h.done i z hi hqi y htz)
theorem BQ.len {q : List Int} {k : Nat} (h : BQ N es v q k) : (q.length : Int) ≤ N := by
  have := nodup_len q (upTo N.toNat) h.nodup fun x hx => mem_upTo.2 (by have := h.bound x hx; omega)
  rw [len_upTo] at this
  have := h.bound v h.vin
  omega
end
/-- the distances from v, in a list -/
noncomputable def dists (M : Nat) (es : List (Int × Int)) (v : Int) : List Int := (List.range M).map fun (u : Nat) => (dist es v u : Int)
theorem dists_len (M : Nat) (es : List (Int × Int)) (v : Int) : (dists M es v).length = M := by simp [dists]
theorem dists_of {M : Nat} {es : List (Int × Int)} {v : Int} {ds : List Int} (hl : ds.length = M) (h : ∀ u : Nat, u < M → ds[u]? = some (dist es v u : Int)) : ds = dists M es v := by
  apply List.ext_getElem?
  intro u
  rcases Nat.lt_or_ge u M with l | l
  · rw [h u l]
    simp [dists, l]
  · rw [List.getElem?_eq_none (by omega), List.getElem?_eq_none (by rw [dists_len]; omega)]
theorem DistOk.dists {M : Nat} {es : List (Int × Int)} {v : Int} {ds : List Int} (h : DistOk M es v ds) (hc : Conn M es) (hv : 0 ≤ v ∧ v < M) : ds = dists M es v := by
  refine dists_of h.len fun u hu => ?_
  obtain ⟨d, hd, h1, h2⟩ := h.near u hu (hc.from_ hv ⟨by omega, by omega⟩)
  rw [hd, dist_eq ⟨h1, h2⟩]
/-- the distances from v in a valid graph, else nothing -/
noncomputable def distB (N : Int) (es : List (Int × Int)) (v : Int) : List Int := if graphB N es = true ∧ vB v N = true then dists N.toNat es v else []
theorem distB_t {N : Int} {es : List (Int × Int)} {v : Int} (h : graphB N es = true) (h2 : vB v N = true) : distB N es v = dists N.toNat es v := by rw [distB, if_pos ⟨h, h2⟩]
theorem distB_f {N : Int} {es : List (Int × Int)} {v : Int} (h : graphB N es = false ∨ vB v N = false) : distB N es v = [] := by
  rw [distB, if_neg]
  rintro ⟨h1, h2⟩
  rcases h with h | h
  · rw [h] at h1; cases h1
  · rw [h] at h2; cases h2
set_option maxHeartbeats 2000000 in
theorem implDist_no (N : Int) (A : Option Addr) (c : Nat) (es : List (Int × Int)) (v : Int) (w : World) (hn : es.length ≤ 1048576) (h : graphB N es = false ∨ (graphB N es = true ∧ vB v N = false)) (hE : EdgeS w w.heap.size A es) :
    Calls Try.prog 16 #[.agg #[.int .i64 N, .slice A es.length c], .int .i64 v] w (GivesInts w []) := by
  have HE := Lib.hid hE
  clear hE
  have hb0 : Below w.heap.size w (w.alloc (Obj.cells #[.int .i64 N, .slice A es.length c] 25)) := (Below.refl _ _).alloc (Nat.le_refl _) _
  rcases h with hB | ⟨hB, hv⟩
  · go_enter Try.func16, Try.ntmps16
    go_wp2_with fail
    refine (implGraphOk _ _ _ _ _ hn (HE.out.up_ hb0)).mono ?_
    rintro e w1 ⟨rfl, hb1⟩
    have hbb : Below w.heap.size w w1 := hb0.trans (hb1.mono hb0.size)
    clear hb0 hb1
    go_wp2
    go_ret
    exact ⟨none, 0, rfl, OwnI.nil _ _ _, hbb⟩
  · go_enter Try.func16, Try.ntmps16
    go_wp2_with fail
    refine (implGraphOk _ _ _ _ _ hn (HE.out.up_ hb0)).mono ?_
    rintro e w1 ⟨rfl, hb1⟩
    have hbb : Below w.heap.size w w1 := hb0.trans (hb1.mono hb0.size)
    have hx1 := (Blk.new w 25 #[.int .i64 N, .slice A es.length c]).below hb1 (by simp)
    have c0 : w1.cell? ⟨w.heap.size, 0, none⟩ = some (.int .i64 N) := by rw [hx1.cell]; rfl
    have c1 : w1.cell? ⟨w.heap.size, 1, none⟩ = some (.slice A es.length c) := by rw [hx1.cell]; rfl
    clear hb0 hb1 hx1
    go_wp2_with fail
    refine (hasVertex_any _ _ _ _ ⟨_, _, _, rfl⟩).mono ?_
    rintro e w2 ⟨rfl, hb2⟩
    have hb3 : Below w.heap.size w w2 := hbb.trans (hb2.mono hbb.size)
    go_wp2
    go_ret
    exact ⟨none, 0, rfl, OwnI.nil _ _ _, hb3⟩
set_option maxHeartbeats 2000000 in
theorem implDist_yes (M v : Nat) (A : Option Addr) (c : Nat) (es : List (Int × Int)) (w : World) (hn : es.length ≤ 1048576) (hB : graphB M es = true) (hv : v < M) (hE : EdgeS w w.heap.size A es) :
    Calls Try.prog 16 #[.agg #[.int .i64 (M : Int), .slice A es.length c], .int .i64 (v : Int)] w (GivesInts w (dists M es v)) := by
  have HE := Lib.hid hE
  have hvb : vB (v : Int) (M : Int) = true := vB_t (by omega)
  have HG := Lib.hid (graphB_all hB)
  clear hE
  have hb0 : Below w.heap.size w (w.alloc (Obj.cells #[.int .i64 (M : Int), .slice A es.length c] 25)) := (Below.refl _ _).alloc (Nat.le_refl _) _
  go_enter Try.func16, Try.ntmps16
  go_wp2_with fail
  refine (implGraphOk _ _ _ _ _ hn (HE.out.up_ hb0)).mono ?_
  rintro e w1 ⟨rfl, hb1⟩
  have hbb : Below w.heap.size w w1 := hb0.trans (hb1.mono hb0.size)
  have hx1 := (Blk.new w 25 #[.int .i64 (M : Int), .slice A es.length c]).below hb1 (by simp)
  have c0 : w1.cell? ⟨w.heap.size, 0, none⟩ = some (.int .i64 (M : Int)) := by rw [hx1.cell]; rfl
  have c1 : w1.cell? ⟨w.heap.size, 1, none⟩ = some (.slice A es.length c) := by rw [hx1.cell]; rfl
  have HX1 := Lib.hid hx1
  clear hb0 hb1 hx1
  go_wp2_with fail
  refine (hasVertex_any _ _ _ _ ⟨_, _, _, rfl⟩).mono ?_
  rintro e w2 ⟨rfl, hb2⟩
  have hb3 : Below w.heap.size w w2 := hbb.trans (hb2.mono hbb.size)
  have hx2 := HX1.out.below hb2 HX1.out.lt
  clear c0 c1
  have c0 : w2.cell? ⟨w.heap.size, 0, none⟩ = some (.int .i64 (M : Int)) := by rw [hx2.cell]; rfl
  have c1 : w2.cell? ⟨w.heap.size, 1, none⟩ = some (.slice A es.length c) := by rw [hx2.cell]; rfl
  clear hx2 hb2 hbb HX1
  go_wp2_with fail
  refine (walkLayers_any M v _ _ _ _ HG.out.1 hv (HE.out.up_ hb3)).mono ?_
  rintro e w3 ⟨g, ds, rfl, hd, hblk, hg, hb4⟩
  have hb5 : Below w.heap.size w w3 := hb3.trans (hb4.mono hb3.size)
  have hde := hd.dists HG.out.2 ⟨by omega, by omega⟩
  rw [hde] at hblk
  have HB := Lib.hid hblk
  have HL := Lib.hid (dists_len M es v)
  have hs := hb3.size
  clear hde hblk hd
  go_wp2
  go_ret
  exact ⟨some ⟨g, 0, none⟩, M, by rw [HL.out]; rfl, OwnI.of_blk HB.out (by omega), hb5⟩

theorem implDist (N : Int) (A : Option Addr) (c : Nat) (es : List (Int × Int)) (v : Int) (w : World) (hn : es.length ≤ 1048576) (hE : EdgeS w w.heap.size A es) :
    Calls Try.prog 16 #[.agg #[.int .i64 N, .slice A es.length c], .int .i64 v] w (GivesInts w (distB N es v)) := by
  cases h : graphB N es with
  | false => rw [distB_f (.inl h)]; exact implDist_no N A c es v w hn (.inl h) hE
  | true =>
    cases h2 : vB v N with
    | false => rw [distB_f (.inr h2)]; exact implDist_no N A c es v w hn (.inr ⟨h, h2⟩) hE
    | true =>
      rw [distB_t h h2]
      obtain ⟨h3, h4⟩ := vB_iff h2
      obtain ⟨M, rfl⟩ : ∃ M : Nat, N = (M : Int) := ⟨N.toNat, by omega⟩
      obtain ⟨u, rfl⟩ : ∃ u : Nat, v = (u : Int) := ⟨v.toNat, by omega⟩
      rw [Int.toNat_natCast]
      exact implDist_yes M u A c es w hn h (by omega) hE
/-- the genus of a valid graph, and else -1 -/
noncomputable def genusB (N : Int) (es : List (Int × Int)) : Int := if graphB N es = true then es.length - N + 1 else -1
theorem genusB_t {N : Int} {es : List (Int × Int)} (h : graphB N es = true) : genusB N es = es.length - N + 1 := by rw [genusB, if_pos h]
theorem genusB_f {N : Int} {es : List (Int × Int)} (h : graphB N es = false) : genusB N es = -1 := by rw [genusB, if_neg (by rw [h]; decide)]
theorem graphB_edges {N : Int} {es : List (Int × Int)} (h : graphB N es = true) : edgesB N es = true := by
  simp only [graphB, Bool.and_eq_true] at h
  exact h.1.1

set_option maxHeartbeats 1000000 in
theorem implGenus (N : Int) (A : Option Addr) (c : Nat) (es : List (Int × Int)) (w : World) (hn : es.length ≤ 1048576) (_ : ∀ e ∈ es, (Lit.int .i64 e.1).wf = true ∧ (Lit.int .i64 e.2).wf = true) (_ : -9223372036854775808 ≤ N) (_ : N ≤ 9223372036854775807) (hE : EdgeS w w.heap.size A es) :
    Calls Try.prog 19 #[.agg #[.int .i64 N, .slice A es.length c]] w fun e w' => e = .returned (.int .i64 (genusB N es)) ∧ Below w.heap.size w w' := by
  have HE := Lib.hid hE
  clear hE
  have hb0 : Below w.heap.size w (w.alloc (Obj.cells #[.int .i64 N, .slice A es.length c] 25)) := (Below.refl _ _).alloc (Nat.le_refl _) _
  cases hB : graphB N es with
  | false =>
    have HF := Lib.hid (genusB_f hB)
    go_enter Try.func19, Try.ntmps19
    go_wp2_with fail
    refine (implGraphOk _ _ _ _ _ (by omega) (HE.out.up_ hb0)).mono ?_
    rintro e w1 ⟨rfl, hb1⟩
    have hbb : Below w.heap.size w w1 := hb0.trans (hb1.mono hb0.size)
    clear hb0 hb1
    go_wp2
    go_ret
    exact ⟨ret_intE HF.out.symm, hbb⟩
  | true =>
    obtain ⟨hN1, hN6, hn12⟩ := edgesB_lims (graphB_edges hB)
    have HF := Lib.hid (genusB_t hB)
    go_enter Try.func19, Try.ntmps19
    go_wp2_with fail
    refine (implGraphOk _ _ _ _ _ (by omega) (HE.out.up_ hb0)).mono ?_
    rintro e w1 ⟨rfl, hb1⟩
    have hbb : Below w.heap.size w w1 := hb0.trans (hb1.mono hb0.size)
    have hx1 := (Blk.new w 25 #[.int .i64 N, .slice A es.length c]).below hb1 (by simp)
    have c0 : w1.cell? ⟨w.heap.size, 0, none⟩ = some (.int .i64 N) := by rw [hx1.cell]; rfl
    have c1 : w1.cell? ⟨w.heap.size, 1, none⟩ = some (.slice A es.length c) := by rw [hx1.cell]; rfl
    clear hb0 hb1 hx1
    go_wp2
    go_ret
    exact ⟨by rw [HF.out]; go_num, hbb⟩
noncomputable def dropK (N : Int) (es : List (Int × Int)) (k : Int) : Bool := graphB N es && decide (0 ≤ k) && decide (k < (es.length : Int)) && graphB N (es.eraseIdx k.toNat)
noncomputable def dropN (N : Int) (es : List (Int × Int)) (k : Int) : Int := if dropK N es k = true then N else 0
noncomputable def dropL (N : Int) (es : List (Int × Int)) (k : Int) : List (Int × Int) := if dropK N es k = true then es.eraseIdx k.toNat else []
theorem drop_no {N : Int} {es : List (Int × Int)} {k : Int} (h : dropK N es k = false) : dropN N es k = 0 ∧ dropL N es k = [] := by
  unfold dropN dropL
  rw [h]
  exact ⟨rfl, rfl⟩
theorem drop_yes {N : Int} {es : List (Int × Int)} {k : Int} (h : dropK N es k = true) : dropN N es k = N ∧ dropL N es k = es.eraseIdx k.toNat := by
  unfold dropN dropL
  rw [if_pos h, if_pos h]
  exact ⟨rfl, rfl⟩
theorem keepG {w W W' : World} {g : Nat} {a b : Value} (h : W.cell? ⟨g, 0, none⟩ = some a ∧ W.cell? ⟨g, 1, none⟩ = some b ∧ Below w.heap.size w W) {B : Nat} (hb : Below B W W') (hg : g < w.heap.size) (hB : w.heap.size ≤ B) : W'.cell? ⟨g, 0, none⟩ = some a ∧ W'.cell? ⟨g, 1, none⟩ = some b ∧ Below w.heap.size w W' :=
  ⟨(hb.cell (p := ⟨g, 0, none⟩) (by show g < B; omega)).trans h.1, (hb.cell (p := ⟨g, 1, none⟩) (by show g < B; omega)).trans h.2.1, h.2.2.trans (hb.mono hB)⟩
theorem keepS {w W W' : World} {g : Nat} {a b : Value} (h : W.cell? ⟨g, 0, none⟩ = some a ∧ W.cell? ⟨g, 1, none⟩ = some b ∧ Below w.heap.size w W) (hb : Below W.heap.size W W') (hg : g < w.heap.size) : W'.cell? ⟨g, 0, none⟩ = some a ∧ W'.cell? ⟨g, 1, none⟩ = some b ∧ Below w.heap.size w W' :=
  keepG h hb hg h.2.2.size
theorem keepR {w W : World} {o0 o1 : Obj} {g : Nat} {a b : Value} (h : (W.alloc o0).cell? ⟨g, 0, none⟩ = some a ∧ (W.alloc o0).cell? ⟨g, 1, none⟩ = some b ∧ Below w.heap.size w (W.alloc o0)) (hW : w.heap.size ≤ W.heap.size) (hg : g < w.heap.size) :
    (W.alloc o1).cell? ⟨g, 0, none⟩ = some a ∧ (W.alloc o1).cell? ⟨g, 1, none⟩ = some b ∧ Below w.heap.size w (W.alloc o1) := by
  have hbl : ∀ k, k < w.heap.size → (W.alloc o1).heap[k]? = (W.alloc o0).heap[k]? := fun k hk => by
    rw [Below.heap_alloc _ _ _ (by omega), Below.heap_alloc _ _ _ (by omega)]
  refine ⟨(World.cell?_of_block (w := W.alloc o0) (hbl g hg)).trans h.1, (World.cell?_of_block (w := W.alloc o0) (hbl g hg)).trans h.2.1, ?_⟩
  have hB := h.2.2
  exact ⟨hB.os, hB.tape, hB.output, by rw [World.size_alloc]; omega, fun k hk => (hbl k hk).trans (hB.block k hk)⟩
theorem keepW {w W : World} {g X : Nat} {a b u v : Value} (h : W.cell? ⟨g, 0, none⟩ = some a ∧ W.cell? ⟨g, 1, none⟩ = some b ∧ Below w.heap.size w W) (hg : g < w.heap.size) (hX : w.heap.size ≤ X) :
    ((W.setCell ⟨X, 0, none⟩ u).setCell ⟨X, 1, none⟩ v).cell? ⟨g, 0, none⟩ = some a ∧ ((W.setCell ⟨X, 0, none⟩ u).setCell ⟨X, 1, none⟩ v).cell? ⟨g, 1, none⟩ = some b ∧ Below w.heap.size w ((W.setCell ⟨X, 0, none⟩ u).setCell ⟨X, 1, none⟩ v) :=
  keepG h (Below.setCell (B := X) (Below.setCell (B := X) (Below.refl X W) (p := ⟨X, 0, none⟩) (Nat.le_refl X) u) (p := ⟨X, 1, none⟩) (Nat.le_refl X) v) hg hX
theorem boxA {W w2 w3 : World} {cs : Array Value} {t : TypeId} {g : Nat} (hb : Below (W.alloc (.cells cs t)).heap.size (W.alloc (.cells cs t)) w2) (hfr : ∀ k, k ≠ g → w3.heap[k]? = w2.heap[k]?) (hg : (W.alloc (.cells cs t)).heap.size ≤ g) : Blk w3 W.heap.size t cs := by
  rw [World.size_alloc] at hg hb
  have h1 := (Blk.new W t cs).below hb (Nat.lt_succ_self _)
  exact (hfr _ (by omega)).trans h1
theorem ownE_two {w : World} {b g X : Nat} {es : List (Int × Int)} (h : OwnE w b (some ⟨g, 0, none⟩) es) (hx : g ≠ X) (u v : Value) : OwnE ((w.setCell ⟨X, 0, none⟩ u).setCell ⟨X, 1, none⟩ v) b (some ⟨g, 0, none⟩) es := fun hn => by
  obtain ⟨g', off, e, h1, hg, hc⟩ := h hn
  injection e with e
  injection e with e1 e2 _
  subst e1
  subst e2
  have hbl : ((w.setCell ⟨X, 0, none⟩ u).setCell ⟨X, 1, none⟩ v).heap[g]? = w.heap[g]? := (Below.heap_setCell _ _ _ _ hx).trans (Below.heap_setCell _ _ _ _ hx)
  have hcl : ∀ o : Nat, ((w.setCell ⟨X, 0, none⟩ u).setCell ⟨X, 1, none⟩ v).cell? ⟨g, o, none⟩ = w.cell? ⟨g, o, none⟩ := fun o => World.cell?_of_block (a := ⟨g, o, none⟩) hbl
  have hfr : ∀ o : Nat, ((w.setCell ⟨X, 0, none⟩ u).setCell ⟨X, 1, none⟩ v).frozen? ⟨g, o, none⟩ = w.frozen? ⟨g, o, none⟩ := fun o => World.frozen?_of_block (a := ⟨g, o, none⟩) hbl
  refine ⟨g, 0, rfl, h1, by simpa [World.setCell] using hg, fun i z hz => ?_⟩
  rw [hcl, hcl, hfr, hfr]
  exact hc i z hz
theorem boxD {W w2 w3 : World} {cs : Array Value} {t : TypeId} {g : Nat} (hb : Below ((W.alloc (.cells cs t)).drew).heap.size ((W.alloc (.cells cs t)).drew) w2) (hfr : ∀ k, k ≠ g → w3.heap[k]? = w2.heap[k]?) (hg : ((W.alloc (.cells cs t)).drew).heap.size ≤ g) : Blk w3 W.heap.size t cs := by
  have hs : ((W.alloc (.cells cs t)).drew).heap.size = W.heap.size + 1 := by simp
  rw [hs] at hg hb
  have h0 : Blk ((W.alloc (.cells cs t)).drew) W.heap.size t cs := Blk.new W t cs
  have h1 := h0.below hb (Nat.lt_succ_self _)
  exact (hfr _ (by omega)).trans h1
theorem boxB {w2 w3 : World} {cs : Array Value} {t : TypeId} {g : Nat} (hfr : ∀ k, k ≠ g → w3.heap[k]? = (w2.alloc (.cells cs t)).heap[k]?) (hg : g < w2.heap.size) : Blk w3 w2.heap.size t cs :=
  (hfr _ (by omega)).trans (Blk.new w2 t cs)
set_option maxRecDepth 100000 in
set_option maxHeartbeats 2000000 in
theorem implDrop (N : Int) (A : Option Addr) (c : Nat) (es : List (Int × Int)) (k : Int) (w : World) (hn : es.length ≤ 1048576) (h0 : -9223372036854775808 ≤ k) (h1 : k ≤ 9223372036854775807) (hE : EdgeS w w.heap.size A es) :
    Calls Try.prog 20 #[.agg #[.int .i64 N, .slice A es.length c], .int .i64 k] w (GivesG w (dropN N es k) (dropL N es k) (dropK N es k)) := by
  have HE := Lib.hid hE
  obtain ⟨wa, hwa⟩ : ∃ wa, wa = ((w.alloc (Obj.cells #[.int .i64 N, .slice A es.length c] 25)).alloc (Obj.cells #[.int .i64 0, .slice none 0 0] 25)) := ⟨_, rfl⟩
  have hba : Below w.heap.size w wa := by rw [hwa]; exact ((Below.refl _ w).alloc (Nat.le_refl _) _).alloc (by simp) _
  have hk1 : Blk wa w.heap.size 25 #[.int .i64 N, .slice A es.length c] := by rw [hwa]; exact (Blk.new w _ _).alloc _
  have hk2 : Blk wa (w.heap.size + 1) 25 #[.int .i64 0, .slice none 0 0] := by
    rw [hwa]
    have h := Blk.new (w.alloc (Obj.cells #[.int .i64 N, .slice A es.length c] 25)) 25 #[.int .i64 0, .slice none 0 0]
    rw [World.size_alloc] at h
    exact h
  have hsa : wa.heap.size = w.heap.size + 2 := by rw [hwa]; simp
  have HWA := Lib.hid hwa
  have HG := Lib.hid (implGraphOk N A c es wa hn ((hE.below hba).keep (fun _ _ => rfl) hba.size))
  clear hwa
  by_cases hg : graphB N es = true
  · rw [hg] at HG
    by_cases hz0 : 0 ≤ k
    · by_cases hz1 : k < (es.length : Int)
      · obtain ⟨i, rfl⟩ : ∃ i : Nat, k = (i : Int) := ⟨k.toNat, by omega⟩
        have hi : i < es.length := by omega
        have hpos : 0 < es.length := by omega
        obtain ⟨b, off, rfl, -, -⟩ := hE hpos
        have HC := fun W (hb : Below w.heap.size w W) => Lib.hid (cloneE_any W b off c es hn ((HE.out.below hb).keep (fun _ _ => rfl) hb.size) hpos)
        have HD : ∀ (w : World) (g cap : Nat) (cs : Array Value), Blk w g 36 cs → cs.toList.take (es.length * 2) = flat es → es.length ≤ cap → Hid (Calls Try.prog 65 #[.slice (some ⟨g, 0, none⟩) es.length cap, .int .i64 i, .int .i64 ((i : Int) + 1)] w fun e w' =>
            e = .returned (.slice (some ⟨g, 0, none⟩) (es.length - 1) cap) ∧ OwnE w' g (some ⟨g, 0, none⟩) (es.eraseIdx i) ∧ Below g w w' ∧ ∀ k, k ≠ g → w'.heap[k]? = w.heap[k]?) := fun w g cap cs h1 h2 h3 => Lib.hid (delE_any w g cap i (i + 1) es cs h1 h2 h3 hn hi rfl)
        have hwr : IntKind.i64.wrap ((i : Int) + 1) = (i : Int) + 1 := by rw [IntKind.wrap_i64]; omega
        have hle : (es.eraseIdx i).length = es.length - 1 := by rw [List.length_eraseIdx, if_pos hi]
        have HO : ∀ (A : Option Addr) (c : Nat) (w : World), EdgeS w w.heap.size A (es.eraseIdx i) → Hid (Calls Try.prog 18 #[.agg #[.int .i64 N, .slice A (es.length - 1) c]] w fun e w' => e = .returned (.bool (graphB N (es.eraseIdx i))) ∧ Below w.heap.size w w') := fun A c w h => Lib.hid (by
          have h2 := implGraphOk N A c (es.eraseIdx i) w (by omega) h
          rw [hle] at h2
          exact h2)
        have HK := Lib.hid (show dropK N es (i : Int) = graphB N (es.eraseIdx i) by
          unfold dropK
          rw [hg, decide_eq_true hz0, decide_eq_true hz1]
          simp)
        go_enter Try.func20, Try.ntmps20
        go_wp2_with fail
        rw [← HWA.out]
        refine HG.out.mono ?_
        rintro e w1 ⟨rfl, hb⟩
        have HB1 := Lib.hid (hk1.below hb (by omega))
        have HB2 := Lib.hid (hk2.below hb (by omega))
        have hb1 := hba.trans (hb.mono hba.size)
        obtain ⟨hc0, hc1, hf0, hf1, hl1⟩ := box_facts HB1.out
        obtain ⟨hd0, hd1, hg0, hg1, hl2⟩ := box_facts HB2.out
        clear hb hk1 hk2 HG
        go_wp2_with fail
        go_region_held3 (fun w' => w'.cell? ⟨w.heap.size, 0, none⟩ = some (.int .i64 N) ∧ w'.cell? ⟨w.heap.size, 1, none⟩ = some (.slice (some ⟨b, off, none⟩) es.length c) ∧ Below w1.heap.size w1 w')
          (first
            | exact ⟨hc0, hc1, (Below.refl _ _).drew⟩
            | exact keepS (by assumption) hb2 hl1
            | exact keepG (by assumption) hb3 hl1 (by first | exact hg | (have := hg; simp at this; omega))
            | exact keepS (by assumption) ((Below.refl _ _).alloc (Nat.le_refl _) _) hl1
            | exact keepR (by assumption) hsz3 hl1
            | exact keepW (by assumption) hl1 hsz2
            | exact keepW (by assumption) hl1 (Nat.le_refl _))
          (first
            | (go_at_call 61; refine (HC _ (by first | exact hb1.drew | exact hb1.drew.alloc hb1.size _ | exact (hb1.alloc hb1.size _).drew)).out.mono ?_; rintro e w2 ⟨g, cap, cs, rfl, hg, hblk, htk, hcap, hcm, hb2⟩; have hsz2 : w1.heap.size ≤ w2.heap.size := Nat.le_trans (by first | exact Nat.le_refl _ | (simp; done) | exact Nat.le_of_lt (by rw [World.size_alloc]; exact Nat.lt_succ_self _)) hb2.size)
            | (go_at_call 65; refine (HD _ g cap cs (by first | exact hblk | exact hblk.alloc _) htk hcap).out.mono ?_; rintro e w3 ⟨rfl, hO, hb3, hfr⟩
               have hsz3 : w1.heap.size ≤ w3.heap.size := Nat.le_trans hsz2 (Nat.le_trans (by first | exact Nat.le_refl _ | (simp; done) | exact Nat.le_of_lt (by rw [World.size_alloc]; exact Nat.lt_succ_self _)) hb3.size)
               first
                 | (have hbx := boxA hb2 hfr hg; obtain ⟨x0, x1, x2, x3, x4⟩ := box_facts hbx)
                 | (have hbx := boxD hb2 hfr hg; obtain ⟨x0, x1, x2, x3, x4⟩ := box_facts hbx)
                 | (have hbx := boxB hfr hblk.lt; obtain ⟨x0, x1, x2, x3, x4⟩ := box_facts hbx)
                 | skip))
        all_goals
          first
            | (obtain ⟨W4, hW4⟩ : ∃ W4 : World, W4 = w3.alloc (Obj.cells #[.int .i64 N, .slice (some ⟨g, 0, none⟩) (es.length - 1) cap] 25) := ⟨_, rfl⟩
               rw [← hW4]
               have hbk : Blk W4 w3.heap.size 25 #[.int .i64 N, .slice (some ⟨g, 0, none⟩) (es.length - 1) cap] := by rw [hW4]; exact Blk.new w3 _ _
               have hOW : OwnE W4 g (some ⟨g, 0, none⟩) (es.eraseIdx i) := by rw [hW4]; exact hO.below ((Below.refl _ _).alloc (Nat.le_refl _) _))
            | (obtain ⟨W4, hW4⟩ : ∃ W4 : World, W4 = ((w3.setCell ⟨w2.heap.size, 0, none⟩ (.int .i64 N)).setCell ⟨w2.heap.size, 1, none⟩ (.slice (some ⟨g, 0, none⟩) (es.length - 1) cap)) := ⟨_, rfl⟩
               rw [← hW4]
               have hbk : Blk W4 w2.heap.size 25 #[.int .i64 N, .slice (some ⟨g, 0, none⟩) (es.length - 1) cap] := by rw [hW4]; exact (hbx.set_ 0 _).set_ 1 _
               have hOW : OwnE W4 g (some ⟨g, 0, none⟩) (es.eraseIdx i) := by rw [hW4]; exact ownE_two hO (by have := hblk.lt; omega) _ _)
            | (obtain ⟨W4, hW4⟩ : ∃ W4 : World, W4 = ((w3.setCell ⟨w1.heap.size, 0, none⟩ (.int .i64 N)).setCell ⟨w1.heap.size, 1, none⟩ (.slice (some ⟨g, 0, none⟩) (es.length - 1) cap)) := ⟨_, rfl⟩
               rw [← hW4]
               have hbk : Blk W4 w1.heap.size 25 #[.int .i64 N, .slice (some ⟨g, 0, none⟩) (es.length - 1) cap] := by rw [hW4]; exact (hbx.set_ 0 _).set_ 1 _
               have hOW : OwnE W4 g (some ⟨g, 0, none⟩) (es.eraseIdx i) := by rw [hW4]; exact ownE_two hO (by have h := hg; simp at h; omega) _ _)
          have hg4 : g < W4.heap.size := by rw [hW4]; exact Nat.lt_of_lt_of_le (Nat.lt_of_lt_of_le hblk.lt (Nat.le_trans (by first | exact Nat.le_refl _ | exact Nat.le_of_lt (by rw [World.size_alloc]; exact Nat.lt_succ_self _)) hb3.size)) (by first | exact Nat.le_of_lt (by rw [World.size_alloc]; exact Nat.lt_succ_self _) | (simp [World.setCell]; done))
          have hb4 : Below w1.heap.size w1 W4 := by rw [hW4]; exact And.right (And.right (by assumption))
          have hgw : w1.heap.size ≤ g := Nat.le_trans (by first | exact Nat.le_refl _ | (simp; done)) hg
          have hb5 := hb1.trans (hb4.mono hb1.size)
          have HR := Lib.hid (HB2.out.below hb4 hl2)
          have HOW := Lib.hid hOW
          have HBK := Lib.hid hbk
          obtain ⟨y0, y1, y2, y3, y4⟩ := box_facts hbk
          clear hW4 hOW hbk hO hfr hb3 hb2 hblk htk
          go_wp2_with fail
          refine (HO _ _ _ HOW.out.edges).out.mono ?_
          rintro e w5 ⟨rfl, hb6⟩
          have HR5 := Lib.hid (HR.out.below hb6 (Nat.lt_of_lt_of_le hl2 hb4.size))
          have HB5 := Lib.hid (HBK.out.below hb6 y4)
          have HO5 := Lib.hid (HOW.out.below hb6)
          have hg5 : g < w5.heap.size := Nat.lt_of_lt_of_le hg4 hb6.size
          have hb7 := hb5.trans (hb6.mono hb5.size)
          have hb8 := hb4.trans (hb6.mono hb4.size)
          clear y0 y1 y2 y3 y4
          obtain ⟨y0, y1, y2, y3, y4⟩ := box_facts HB5.out
          obtain ⟨r0, r1, r2, r3, r4⟩ := box_facts HR5.out
          clear hb6 hb5 hb4 HR HBK HOW HO
          cases hg2 : graphB N (es.eraseIdx i) with
          | false =>
            rw [hg2] at HK
            have E0 := drop_no HK.out
            have E1 := Lib.hid E0.1
            have E2 := Lib.hid E0.2
            clear E0 hg2
            go_wp2
            obtain ⟨W6, hW6⟩ : ∃ W6 : World, W6 = ((w5.setCell ⟨w.heap.size + 1, 0, none⟩ (.int .i64 0)).setCell ⟨w.heap.size + 1, 1, none⟩ (.slice none 0 0)) := ⟨_, rfl⟩
            rw [← hW6]
            have hb9 : Blk W6 (w.heap.size + 1) 25 #[.int .i64 0, .slice none 0 0] := by rw [hW6]; exact (HR5.out.set_ 0 _).set_ 1 _
            have hbA : Below w.heap.size w W6 := by rw [hW6]; exact hb7.trans (below_two (by omega) _ _)
            obtain ⟨z0, z1, z2, z3, z4⟩ := box_facts hb9
            refine bodyPost_ret (v := .tuple #[.agg #[.int .i64 0, .slice none 0 0], .bool false]) (by simp [results, Try.results20, go_sem, z0, z1]) rfl ⟨none, 0, by rw [E1.out, E2.out, HK.out]; rfl, by rw [E2.out]; exact own_nil _ _ _, (fun _ _ h => by cases h), hbA⟩
          | true =>
            rw [hg2] at HK
            have E0 := drop_yes HK.out
            have E1 := Lib.hid E0.1
            have E2 := Lib.hid E0.2
            clear E0 hg2
            go_wp2
            obtain ⟨W6, hW6⟩ : ∃ W6 : World, W6 = ((w5.setCell ⟨w.heap.size + 1, 0, none⟩ (.int .i64 N)).setCell ⟨w.heap.size + 1, 1, none⟩ (.slice (some ⟨g, 0, none⟩) (es.length - 1) cap)) := ⟨_, rfl⟩
            rw [← hW6]
            have hb9 : Blk W6 (w.heap.size + 1) 25 #[.int .i64 N, .slice (some ⟨g, 0, none⟩) (es.length - 1) cap] := by rw [hW6]; exact (HR5.out.set_ 0 _).set_ 1 _
            have hbA : Below w.heap.size w W6 := by rw [hW6]; exact hb7.trans (below_two (by omega) _ _)
            have hg6 : g < W6.heap.size := by rw [hW6]; exact Nat.lt_of_lt_of_le hg5 (by simp [World.setCell])
            have hoA : OwnE W6 g (some ⟨g, 0, none⟩) (es.eraseIdx i) := by rw [hW6]; exact ownE_two HO5.out (by omega) _ _
            obtain ⟨z0, z1, z2, z3, z4⟩ := box_facts hb9
            refine bodyPost_ret (v := .tuple #[.agg #[.int .i64 N, .slice (some ⟨g, 0, none⟩) (es.length - 1) cap], .bool true]) (by simp [results, Try.results20, go_sem, z0, z1]) rfl ⟨some ⟨g, 0, none⟩, cap, by rw [E1.out, E2.out, HK.out]; show _ = Ending.returned (.tuple #[.agg #[.int .i64 N, .slice _ (es.eraseIdx i).length cap], .bool true]); rw [hle], by rw [E2.out]; exact hoA.mono (by omega), own_rng (by omega) hg6, hbA⟩
      · skip
        have HK := Lib.hid (show dropK N es k = false by unfold dropK; rw [decide_eq_false hz1]; simp)
        have E0 := drop_no HK.out
        have E1 := Lib.hid E0.1
        have E2 := Lib.hid E0.2
        clear E0
        have hz2 : (es.length : Int) ≤ k := by omega
        clear hz1 hg
        go_enter Try.func20, Try.ntmps20
        go_wp2_with fail
        rw [← HWA.out]
        refine HG.out.mono ?_
        rintro e w1 ⟨rfl, hb⟩
        have HB1 := Lib.hid (hk1.below hb (by omega))
        have HB2 := Lib.hid (hk2.below hb (by omega))
        have hb1 := hba.trans (hb.mono hba.size)
        obtain ⟨hc0, hc1, hf0, hf1, hl1⟩ := box_facts HB1.out
        obtain ⟨hd0, hd1, hg0, hg1, hl2⟩ := box_facts HB2.out
        clear hb hk1 hk2 HG
        go_wp2
        obtain ⟨W6, hW6⟩ : ∃ W6 : World, W6 = ((w1.setCell ⟨w.heap.size + 1, 0, none⟩ (.int .i64 0)).setCell ⟨w.heap.size + 1, 1, none⟩ (.slice none 0 0)) := ⟨_, rfl⟩
        rw [← hW6]
        have hb9 : Blk W6 (w.heap.size + 1) 25 #[.int .i64 0, .slice none 0 0] := by rw [hW6]; exact (HB2.out.set_ 0 _).set_ 1 _
        have hbA : Below w.heap.size w W6 := by rw [hW6]; exact hb1.trans (below_two (by omega) _ _)
        obtain ⟨z0, z1, z2, z3, z4⟩ := box_facts hb9
        refine bodyPost_ret (v := .tuple #[.agg #[.int .i64 0, .slice none 0 0], .bool false]) (by simp [results, Try.results20, go_sem, z0, z1]) rfl ⟨none, 0, by rw [E1.out, E2.out, HK.out]; rfl, by rw [E2.out]; exact own_nil _ _ _, (fun _ _ h => by cases h), hbA⟩
    · skip
      have HK := Lib.hid (show dropK N es k = false by unfold dropK; rw [decide_eq_false hz0]; simp)
      have E0 := drop_no HK.out
      have E1 := Lib.hid E0.1
      have E2 := Lib.hid E0.2
      clear E0
      have hz2 : k < 0 := by omega
      clear hz0 hg
      go_enter Try.func20, Try.ntmps20
      go_wp2_with fail
      rw [← HWA.out]
      refine HG.out.mono ?_
      rintro e w1 ⟨rfl, hb⟩
      have HB1 := Lib.hid (hk1.below hb (by omega))
      have HB2 := Lib.hid (hk2.below hb (by omega))
      have hb1 := hba.trans (hb.mono hba.size)
      obtain ⟨hc0, hc1, hf0, hf1, hl1⟩ := box_facts HB1.out
      obtain ⟨hd0, hd1, hg0, hg1, hl2⟩ := box_facts HB2.out
      clear hb hk1 hk2 HG
      go_wp2
      obtain ⟨W6, hW6⟩ : ∃ W6 : World, W6 = ((w1.setCell ⟨w.heap.size + 1, 0, none⟩ (.int .i64 0)).setCell ⟨w.heap.size + 1, 1, none⟩ (.slice none 0 0)) := ⟨_, rfl⟩
      rw [← hW6]
      have hb9 : Blk W6 (w.heap.size + 1) 25 #[.int .i64 0, .slice none 0 0] := by rw [hW6]; exact (HB2.out.set_ 0 _).set_ 1 _
      have hbA : Below w.heap.size w W6 := by rw [hW6]; exact hb1.trans (below_two (by omega) _ _)
      obtain ⟨z0, z1, z2, z3, z4⟩ := box_facts hb9
      refine bodyPost_ret (v := .tuple #[.agg #[.int .i64 0, .slice none 0 0], .bool false]) (by simp [results, Try.results20, go_sem, z0, z1]) rfl ⟨none, 0, by rw [E1.out, E2.out, HK.out]; rfl, by rw [E2.out]; exact own_nil _ _ _, (fun _ _ h => by cases h), hbA⟩
  · skip
    have hg0 : graphB N es = false := by simpa using hg
    rw [hg0] at HG
    have HK := Lib.hid (show dropK N es k = false by unfold dropK; rw [hg0]; simp)
    have E0 := drop_no HK.out
    have E1 := Lib.hid E0.1
    have E2 := Lib.hid E0.2
    clear E0
    clear hg0 hg
    go_enter Try.func20, Try.ntmps20
    go_wp2_with fail
    rw [← HWA.out]
    refine HG.out.mono ?_
    rintro e w1 ⟨rfl, hb⟩
    have HB1 := Lib.hid (hk1.below hb (by omega))
    have HB2 := Lib.hid (hk2.below hb (by omega))
    have hb1 := hba.trans (hb.mono hba.size)
    obtain ⟨hc0, hc1, hf0, hf1, hl1⟩ := box_facts HB1.out
    obtain ⟨hd0, hd1, hg0, hg1, hl2⟩ := box_facts HB2.out
    clear hb hk1 hk2 HG
    go_wp2
    obtain ⟨W6, hW6⟩ : ∃ W6 : World, W6 = ((w1.setCell ⟨w.heap.size + 1, 0, none⟩ (.int .i64 0)).setCell ⟨w.heap.size + 1, 1, none⟩ (.slice none 0 0)) := ⟨_, rfl⟩
    rw [← hW6]
    have hb9 : Blk W6 (w.heap.size + 1) 25 #[.int .i64 0, .slice none 0 0] := by rw [hW6]; exact (HB2.out.set_ 0 _).set_ 1 _
    have hbA : Below w.heap.size w W6 := by rw [hW6]; exact hb1.trans (below_two (by omega) _ _)
    obtain ⟨z0, z1, z2, z3, z4⟩ := box_facts hb9
    refine bodyPost_ret (v := .tuple #[.agg #[.int .i64 0, .slice none 0 0], .bool false]) (by simp [results, Try.results20, go_sem, z0, z1]) rfl ⟨none, 0, by rw [E1.out, E2.out, HK.out]; rfl, by rw [E2.out]; exact own_nil _ _ _, (fun _ _ h => by cases h), hbA⟩
set_option maxHeartbeats 400000 in
theorem sliceEq_any (A C : Option Addr) (ca cc : Nat) (es fs : List (Int × Int)) (w : World) (hn : es.length ≤ 9223372036854775807) (hm : fs.length ≤ 9223372036854775807)
    (h1 : EdgeS w w.heap.size A es) (h2 : EdgeS w w.heap.size C fs) :
    Calls Try.prog 66 #[.slice A es.length ca, .slice C fs.length cc] w fun e w' => e = .returned (.bool (decide (es = fs))) ∧ Below w.heap.size w w' := by
  by_cases hl : es.length = fs.length
  · have H1 := Lib.hid h1
    have H2 := Lib.hid h2
    clear h1 h2
    have hl2 : ((es.length : Int) != (fs.length : Int)) = false := by simp [hl]
    have hl3 : es.length ≤ fs.length := by omega
    have hl4 : fs.length ≤ es.length := by omega
    clear hl
    go_enter Try.func66, Try.ntmps66
    go_wp2
    go_loopw [13] (fun i wr => ∃ k : Nat, k ≤ es.length ∧ i = .int .i64 k ∧ es.take k = fs.take k ∧ Below w.heap.size w wr) (fun i _ => es.length - (intOf i).toNat)
    case atStart => exact ⟨0, Nat.zero_le _, rfl, rfl, Below.refl _ _⟩
    case round =>
      obtain ⟨k, hk, rfl, ht, hb⟩ := hrel
      have HT := Lib.hid ht
      clear ht
      by_cases hlt : k < es.length
      · obtain ⟨b1, o1, e, rfl, hb1, he, hc0, hc1⟩ := (H1.out.below hb).at_ hlt
        obtain ⟨b2, o2, f, rfl, hb2, hf, hd0, hd1⟩ := (H2.out.below hb).at_ (k := k) (by omega)
        have HE := Lib.hid he
        have HF := Lib.hid hf
        clear he hf
        have hi0 : (0 : Int) ≤ (k : Int) := Int.natCast_nonneg _
        have hi1 : (k : Int) < (es.length : Int) := by omega
        have hi2 : (k : Int) < (fs.length : Int) := by omega
        obtain ⟨a, b⟩ := e
        obtain ⟨c, d⟩ := f
        simp only at hc0 hc1 hd0 hd1
        by_cases h1 : a = c
        · subst h1
          by_cases h2 : b = d
          · subst h2
            have HQ := Lib.hid (take_same HT.out HE.out HF.out)
            go_wp2
            go_region
            go_wp2
            exact ⟨⟨k + 1, by omega, by go_num, HQ.out, hb.drew⟩, by simp [intOf]; omega⟩
          · have HQ := Lib.hid (take_differ HE.out HF.out (fun h => h2 (by injection h)))
            go_wp2
            go_region
            go_wp2
            go_ret
            exact ⟨ret_boolE HQ.out.symm, hb.drew⟩
        · have HQ := Lib.hid (take_differ HE.out HF.out (fun h => h1 (by injection h)))
          go_wp2
          go_region
          go_wp2
          go_ret
          exact ⟨ret_boolE HQ.out.symm, hb.drew⟩
      · have HA := Lib.hid (take_all_same HT.out (by omega) (by omega))
        go_wp2
        go_ret
        exact ⟨ret_boolE HA.out.symm, hb⟩
  · have hl2 : ((es.length : Int) != (fs.length : Int)) = true := by simp; omega
    have HD := Lib.hid (show decide (es = fs) = false by rw [decide_eq_false_iff_not]; rintro rfl; exact hl rfl)
    clear hl
    go_enter Try.func66, Try.ntmps66
    go_wp2
    go_ret
    exact ⟨ret_boolE HD.out.symm, Below.refl _ _⟩

set_option maxHeartbeats 400000 in
theorem implSame (N M : Int) (A C : Option Addr) (ca cc : Nat) (es fs : List (Int × Int)) (w : World) (hn : es.length ≤ 9223372036854775807) (hm : fs.length ≤ 9223372036854775807)
    (h1 : EdgeS w w.heap.size A es) (h2 : EdgeS w w.heap.size C fs) :
    Calls Try.prog 21 #[.agg #[.int .i64 N, .slice A es.length ca], .agg #[.int .i64 M, .slice C fs.length cc]] w fun e w' => e = .returned (.bool (eqG N M es fs)) ∧ Below w.heap.size w w' := by
  have H1 := Lib.hid h1
  have H2 := Lib.hid h2
  clear h1 h2
  have hb0 : Below w.heap.size w ((w.alloc (Obj.cells #[.int .i64 N, .slice A es.length ca] 25)).alloc (Obj.cells #[.int .i64 M, .slice C fs.length cc] 25)) :=
    ((Below.refl _ _).alloc (Nat.le_refl _) _).alloc (by simp) _
  by_cases h : N = M
  · have e1 : (N == M) = true := by simp [h]
    have H := Lib.hid (show eqG N M es fs = decide (es = fs) by simp [eqG, h])
    clear h
    have HC := fun w h3 h4 => Lib.hid (sliceEq_any A C ca cc es fs w hn hm h3 h4)
    go_enter Try.func21, Try.ntmps21
    go_wp2_with (go_at_call 66; refine (HC _ (H1.out.up_ hb0) (H2.out.up_ hb0)).out.mono ?_; rintro e w1 ⟨rfl, hb⟩)
    go_ret
    exact ⟨ret_boolE (by rw [H.out]), hb0.trans (hb.mono hb0.size)⟩
  · have e1 : (N == M) = false := by simp [h]
    have H := Lib.hid (show eqG N M es fs = false by simp [eqG, h])
    clear h
    go_enter Try.func21, Try.ntmps21
    go_wp2
    go_ret
    exact ⟨ret_boolE (by rw [H.out]), hb0⟩

end Go.Proofs.Ytbojbifpaecbcaa
