/- The program's Valence. -/
import Derived.Test.YtdpojcgeblbfeaaWBE
import Derived.Test.YtdpojcgeblbfeaaWBF
set_option linter.all false
namespace Go.Proofs.Ytdpojcgeblbfeaa
open Go.RowKit Go.Maps

theorem sum_step {es : List (Int × Int)} {left : Int × Int → Bool} {e : Int × Int} {v : Int} (hl : left e = true) :
    (es.filter (fun f => touch v f && !(left f && !(f == e)))).length = (es.filter (fun f => touch v f && !left f)).length + if touch v e = true then es.count e else 0 := by
  induction es with
  | nil => simp
  | cons f l ih =>
    rw [List.filter_cons, List.filter_cons, List.count_cons]
    by_cases hfe : f = e
    · subst hfe
      have p1 : (touch v f && !(left f && !(f == f))) = touch v f := by simp
      have p2 : (touch v f && !left f) = false := by simp [hl]
      rw [p1, p2]
      cases ht : touch v f with
      | true =>
        rw [ht] at ih
        simp only [if_true, List.length_cons, beq_self_eq_true, Bool.false_eq_true, if_false] at ih ⊢
        omega
      | false =>
        rw [ht] at ih
        simp only [Bool.false_eq_true, if_false] at ih ⊢
        exact ih
    · have p3 : (f == e) = false := by simp [hfe]
      have p4 : (touch v f && !(left f && !(f == e))) = (touch v f && !left f) := by rw [p3]; simp
      rw [p4, p3]
      simp only [Bool.false_eq_true, if_false, Nat.add_zero]
      cases hc : (touch v f && !left f) with
      | true =>
        simp only [if_true, List.length_cons]
        omega
      | false =>
        simp only [Bool.false_eq_true, if_false]
        exact ih
theorem sum_end {es : List (Int × Int)} {left : Int × Int → Bool} {v : Int} (h : ∀ e ∈ es, left e = false) : (es.filter (fun f => touch v f && !left f)).length = (es.filter (touch v)).length := by
  congr 1
  apply List.filter_congr
  intro e he
  rw [h e he]
  simp
theorem sum_start {es : List (Int × Int)} {v : Int} : (es.filter (fun f => touch v f && !es.contains f)).length = 0 := by
  rw [List.length_eq_zero_iff, List.filter_eq_nil_iff]
  intro e he
  simp [he]

set_option maxHeartbeats 1000000 in
theorem implVal_yes (N : Int) (A : Option Addr) (c : Nat) (es : List (Int × Int)) (v : Int) (w : World) (hn : es.length ≤ 1048576) (hw : ∀ e ∈ es, WfE e) (ha : vB v N = true) (hE : EdgeS w w.heap.size A es) :
    Calls Try.prog 161 #[.agg #[.int .i64 N, .slice A es.length c], .int .i64 v] w fun e w' => e = .returned (.int .i64 (es.filter (touch v)).length) ∧ Below w.heap.size w w' := by
  have HE := Lib.hid hE
  have HW := Lib.hid hw
  clear hE hw
  go_enter Try.func161, Try.ntmps161
  go_wp2_with fail
  refine (hasVertex_any _ _ _ _ ⟨_, _, _, rfl⟩).mono ?_
  rintro e w1 ⟨rfl, hb1⟩
  have hk1 := (Blk.new w 25 #[.int .i64 N, .slice A es.length c]).below hb1 (by simp)
  have B1 := ((Below.refl w.heap.size w).alloc (Nat.le_refl _) (.cells #[.int .i64 N, .slice A es.length c] 25)).trans (hb1.mono (by simp))
  have c0 : w1.cell? ⟨w.heap.size, 0, none⟩ = some (.int .i64 N) := by rw [hk1.cell]; rfl
  have c1 : w1.cell? ⟨w.heap.size, 1, none⟩ = some (.slice A es.length c) := by rw [hk1.cell]; rfl
  clear hb1 hk1
  go_wp2_with fail
  refine (countEdges_any _ _ _ _ _ hn HW.out (HE.out.up_ B1)).mono ?_
  rintro e w2 ⟨rfl, hcm2, hb2⟩
  have B2 := B1.trans (hb2.mono B1.size)
  have hsz1 := B1.size
  have HC2 := Lib.hid hcm2
  clear hcm2 hb2 c0 c1
  go_wp2_with (at_range; refine wp_range_edges _ rfl _ rfl _ _ rfl HC2.out ?_; intro w3 cnt0 hrg0 hb3 hsz3)
  go_frame
  go_loopw [5] (fun n wr => ∃ (left : Int × Int → Bool) (cnt : Nat), RG wr (w1.heap.size + 1) w2.heap.size es left cnt ∧ n = .int .i64 (es.filter (fun f => touch v f && !left f)).length ∧ Below w.heap.size w wr)
    (fun _ wr => wr.rangeLeft (w1.heap.size + 1) w2.heap.size)
  case atStart => exact ⟨_, cnt0, hrg0, by rw [sum_start]; rfl, B2.trans (hb3.mono B2.size)⟩
  case round =>
    obtain ⟨left, cnt, hrg, rfl, hbw⟩ := hrel
    have HR := Lib.hid hrg
    clear hrg hrg0
    go_wp2_with (at_next; refine wp_next_edges _ rfl _ rfl _ _ es left cnt rfl HR.out ?_ ?_)
    · intro hdone
      have HA := Lib.hid (sum_end (v := v) (fun e he => hdone e.1 e.2 (HW.out e he)))
      clear hdone
      go_wp2
      go_ret
      exact ⟨ret_intE (congrArg Int.ofNat HA.out), hbw⟩
    · intro x y w4 cnt4 hwe hle hrg4 hlt4 hg4 hs4 hen
      have hle' : left (x, y) = true := by assumption
      have HS := Lib.hid (sum_step (es := es) (v := v) hle')
      have HR4 := Lib.hid hrg4
      have HL := Lib.hid hrg4.left_eq
      have HL2 := Lib.hid HR.out.left_eq
      have B4 : Below w.heap.size w w4 := hbw.grown hg4 hbw.size (fun k hk => by cases hk; exact B2.size)
      have z0 : (0 : Int) ≤ ((es.filter (fun f => touch v f && !left f)).length : Int) := Int.natCast_nonneg _
      have z1 : ((es.filter (fun f => touch v f && !left f)).length : Int) ≤ 1048576 := by have := List.length_filter_le (fun f => touch v f && !left f) es; omega
      have z2 : (es.count (x, y) : Int) ≤ 1048576 := by have h1 : es.count (x, y) ≤ es.length := List.count_le_length; omega
      have z3 : (0 : Int) ≤ (es.count (x, y) : Int) := Int.natCast_nonneg _
      clear hrg4 hle
      by_cases h1 : x = v
      · have t1 : (x == v) = true := by rw [beq_iff_eq]; exact h1
        have HQ := HS.out
        rw [if_pos (by simp [touch, h1])] at HQ
        have HQ2 := Lib.hid HQ
        clear HQ h1
        go_wp2
        refine ⟨⟨_, cnt4, HR4.out.alloc _, by rw [HQ2.out]; go_num, B4.alloc B4.size _⟩, ?_⟩
        rw [(HR4.out.alloc _).left_eq, HL2.out]
        exact hlt4
      · have t1 : (x == v) = false := by rw [beq_eq_false_iff_ne]; exact h1
        by_cases h2 : y = v
        · have t2 : (y == v) = true := by rw [beq_iff_eq]; exact h2
          have HQ := HS.out
          rw [if_pos (by simp [touch, h2])] at HQ
          have HQ2 := Lib.hid HQ
          clear HQ h1 h2
          go_wp2
          refine ⟨⟨_, cnt4, HR4.out.alloc _, by rw [HQ2.out]; go_num, B4.alloc B4.size _⟩, ?_⟩
          rw [(HR4.out.alloc _).left_eq, HL2.out]
          exact hlt4
        · have t2 : (y == v) = false := by rw [beq_eq_false_iff_ne]; exact h2
          have HQ := HS.out
          rw [if_neg (by simp [touch, h1, h2])] at HQ
          have HQ2 := Lib.hid HQ
          clear HQ h1 h2
          go_wp2
          refine ⟨⟨_, cnt4, HR4.out.alloc _, by rw [HQ2.out]; rfl, B4.alloc B4.size _⟩, ?_⟩
          rw [(HR4.out.alloc _).left_eq, HL2.out]
          exact hlt4

end Go.Proofs.Ytdpojcgeblbfeaa
