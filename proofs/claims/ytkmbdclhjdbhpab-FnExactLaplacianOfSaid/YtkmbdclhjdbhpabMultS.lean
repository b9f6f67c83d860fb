/- Multiplicity: the specification's count by a loop and the program's count by a map are one plain number. -/
import Derived.Test.YtkmbdclhjdbhpabEdgesOk
import Derived.Test.YtkmbdclhjdbhpabCount
import Derived.Test.YtkmbdclhjdbhpabVertB
namespace Go.Proofs.Ytkmbdclhjdbhpab
open Go.RowKit Go.Maps

set_option maxHeartbeats 400000 in
theorem l02Vert_any (N : Int) (S : Value) (v : Int) (w : World) (hS : ∃ A n c, S = .slice A n c) : Calls Try.prog 98 #[.agg #[.int .i64 N, S], .int .i64 v] w fun e w' => e = .returned (.bool (vB v N)) ∧ Below w.heap.size w w' := by
  obtain ⟨A, n, c, rfl⟩ := hS
  by_cases h : 0 ≤ v
  · by_cases h2 : v < N
    · rw [vB_t ⟨h, h2⟩]
      go_enter Try.func98, Try.ntmps98
      go_wp2
      go_ret
      exact ⟨ret_boolE (by simp), (Below.refl _ _).alloc (Nat.le_refl _) _⟩
    · rw [vB_f (.inr (by omega))]
      have h3 : decide (v < N) = false := decide_eq_false h2
      clear h2
      go_enter Try.func98, Try.ntmps98
      go_wp2
      go_ret
      exact ⟨ret_boolE (by simp), (Below.refl _ _).alloc (Nat.le_refl _) _⟩
  · rw [vB_f (.inl (by omega))]
    have h3 : decide (0 ≤ v) = false := decide_eq_false h
    have h4 : v < 0 := by omega
    clear h
    go_enter Try.func98, Try.ntmps98
    go_wp2
    go_ret
    exact ⟨ret_boolE (by simp), (Below.refl _ _).alloc (Nat.le_refl _) _⟩
set_option maxHeartbeats 400000 in
theorem edgeBetween_lt (a b : Int) (w : World) (h : a < b) : Calls Try.prog 76 #[.int .i64 a, .int .i64 b] w fun e w' => e = .returned (.agg #[.int .i64 a, .int .i64 b]) ∧ Below w.heap.size w w' := by
  go_enter Try.func76, Try.ntmps76
  go_wp2
  exact bodyPost_ret (v := .agg #[.int .i64 a, .int .i64 b]) (by simp [results, Try.results76, go_sem]) rfl ⟨rfl, (Below.refl _ _).alloc (Nat.le_refl _) _⟩
set_option maxHeartbeats 400000 in
theorem edgeBetween_gt (a b : Int) (w : World) (h : b < a) : Calls Try.prog 76 #[.int .i64 a, .int .i64 b] w fun e w' => e = .returned (.agg #[.int .i64 b, .int .i64 a]) ∧ Below w.heap.size w w' := by
  go_enter Try.func76, Try.ntmps76
  go_wp2
  exact bodyPost_ret (v := .agg #[.int .i64 b, .int .i64 a]) (by simp [results, Try.results76, go_sem]) rfl ⟨rfl, (Below.refl _ _).alloc (Nat.le_refl _) _⟩

def multB (N : Int) (es : List (Int × Int)) (a b : Int) : Int := if 0 ≤ a ∧ a < N ∧ 0 ≤ b ∧ b < N ∧ a ≠ b then es.count (min a b, max a b) else 0
theorem multB_no {N : Int} {es : List (Int × Int)} {a b : Int} (h : vB a N = false ∨ vB b N = false ∨ a = b) : multB N es a b = 0 := by
  rw [multB, if_neg]
  rintro ⟨h1, h2, h3, h4, h5⟩
  rcases h with h | h | h
  · rw [vB_t ⟨h1, h2⟩] at h; cases h
  · rw [vB_t ⟨h3, h4⟩] at h; cases h
  · exact h5 h
theorem multB_yes {N : Int} {es : List (Int × Int)} {a b : Int} (ha : vB a N = true) (hb : vB b N = true) (h : a ≠ b) : multB N es a b = es.count (min a b, max a b) := by
  have h1 := vB_iff ha
  have h2 := vB_iff hb
  rw [multB, if_pos ⟨h1.1, h1.2, h2.1, h2.2, h⟩]

theorem count_snoc {es : List (Int × Int)} {k : Nat} {e f : Int × Int} (he : es[k]? = some e) : (es.take (k + 1)).count f = (es.take k).count f + if e = f then 1 else 0 := by
  rw [List.take_add_one, he, List.count_append]
  simp [List.count_cons]
theorem count_le {es : List (Int × Int)} (k : Nat) (f : Int × Int) : (es.take k).count f ≤ k := by
  have h1 : (es.take k).count f ≤ (es.take k).length := List.count_le_length
  simp only [List.length_take] at h1
  omega

set_option maxHeartbeats 1000000 in
theorem specMult_lt (N : Int) (A : Option Addr) (c : Nat) (es : List (Int × Int)) (a b : Int) (w : World) (hn : es.length ≤ 1048576) (ha : vB a N = true) (hb : vB b N = true) (hab : a < b) (hE : EdgeS w w.heap.size A es) :
    Calls Try.prog 64 #[.agg #[.int .i64 N, .slice A es.length c], .int .i64 a, .int .i64 b] w fun e w' => e = .returned (.int .i64 (es.count (a, b))) ∧ Below w.heap.size w w' := by
  have HE := Lib.hid hE
  clear hE
  have hne : (a == b) = false := by rw [beq_eq_false_iff_ne]; omega
  go_enter Try.func64, Try.ntmps64
  go_wp2_with fail
  refine (l02Vert_any _ _ _ _ ⟨_, _, _, rfl⟩).mono ?_
  rintro e w1 ⟨rfl, hb1⟩
  have hk1 := (Blk.new w 39 #[.int .i64 N, .slice A es.length c]).below hb1 (by simp)
  have B1 := ((Below.refl w.heap.size w).alloc (Nat.le_refl _) (.cells #[.int .i64 N, .slice A es.length c] 39)).trans (hb1.mono (by simp))
  have c0 : w1.cell? ⟨w.heap.size, 0, none⟩ = some (.int .i64 N) := by rw [hk1.cell]; rfl
  have c1 : w1.cell? ⟨w.heap.size, 1, none⟩ = some (.slice A es.length c) := by rw [hk1.cell]; rfl
  clear hb1
  go_wp2_with fail
  refine (l02Vert_any _ _ _ _ ⟨_, _, _, rfl⟩).mono ?_
  rintro e w2 ⟨rfl, hb2⟩
  have hk2 := hk1.below hb2 hk1.lt
  have B2 := B1.trans (hb2.mono B1.size)
  clear c0 c1 hb2 hk1 B1
  have c0 : w2.cell? ⟨w.heap.size, 0, none⟩ = some (.int .i64 N) := by rw [hk2.cell]; rfl
  have c1 : w2.cell? ⟨w.heap.size, 1, none⟩ = some (.slice A es.length c) := by rw [hk2.cell]; rfl
  clear hk2
  go_wp2
  go_loopw [7, 28] (fun n i wr => ∃ k : Nat, k ≤ es.length ∧ i = .int .i64 k ∧ n = .int .i64 ((es.take k).count (a, b)) ∧ Below w.heap.size w wr) (fun _ i _ => es.length - (intOf i).toNat)
  case atStart => exact ⟨0, Nat.zero_le _, rfl, rfl, B2⟩
  case round =>
    obtain ⟨k, hk, rfl, rfl, hbw⟩ := hrel
    clear c0 c1
    by_cases hlt : k < es.length
    · obtain ⟨b1, o1, e, rfl, hb1, he, hc0, hc1⟩ := (HE.out.below hbw).at_ hlt
      have hi0 : (0 : Int) ≤ (k : Int) := Int.natCast_nonneg _
      have hi1 : (k : Int) < (es.length : Int) := by omega
      have HS := Lib.hid (count_snoc (f := (a, b)) he)
      have hcl := count_le (es := es) k (a, b)
      have hz0 : (0 : Int) ≤ ((es.take k).count (a, b) : Int) := Int.natCast_nonneg _
      clear he
      by_cases h1 : e.1 = a
      · have t1 : (e.1 == a) = true := by rw [beq_iff_eq]; exact h1
        have HH1 := Lib.hid h1
        clear h1
        by_cases h2 : e.2 = b
        · have t2 : (e.2 == b) = true := by rw [beq_iff_eq]; exact h2
          have HQ := HS.out
          rw [if_pos (Prod.ext HH1.out h2)] at HQ
          have HQ2 := Lib.hid HQ
          clear HQ h2
          go_wp2
          exact ⟨⟨k + 1, by omega, by go_num, by rw [HQ2.out]; go_num, hbw.alloc hbw.size _⟩, by simp [intOf]; omega⟩
        · have t2 : (e.2 == b) = false := by rw [beq_eq_false_iff_ne]; exact h2
          have HQ := HS.out
          rw [if_neg (fun he => h2 (by rw [he]))] at HQ
          have HQ2 := Lib.hid HQ
          clear HQ h2
          go_wp2
          exact ⟨⟨k + 1, by omega, by go_num, by rw [HQ2.out]; rfl, hbw.alloc hbw.size _⟩, by simp [intOf]; omega⟩
      · have t1 : (e.1 == a) = false := by rw [beq_eq_false_iff_ne]; exact h1
        have HQ := HS.out
        rw [if_neg (fun he => h1 (by rw [he]))] at HQ
        have HQ2 := Lib.hid HQ
        clear HQ h1
        go_wp2
        exact ⟨⟨k + 1, by omega, by go_num, by rw [HQ2.out]; rfl, hbw.alloc hbw.size _⟩, by simp [intOf]; omega⟩
    · have HA := Lib.hid (show (es.take k).count (a, b) = es.count (a, b) by rw [List.take_of_length_le (by omega)])
      go_wp2
      go_ret
      exact ⟨ret_intE (congrArg Int.ofNat HA.out), hbw⟩

set_option maxHeartbeats 1000000 in
theorem specMult_gt (N : Int) (A : Option Addr) (c : Nat) (es : List (Int × Int)) (a b : Int) (w : World) (hn : es.length ≤ 1048576) (ha : vB a N = true) (hb : vB b N = true) (hab : b < a) (hE : EdgeS w w.heap.size A es) :
    Calls Try.prog 64 #[.agg #[.int .i64 N, .slice A es.length c], .int .i64 a, .int .i64 b] w fun e w' => e = .returned (.int .i64 (es.count (b, a))) ∧ Below w.heap.size w w' := by
  have HE := Lib.hid hE
  clear hE
  have hne : (a == b) = false := by rw [beq_eq_false_iff_ne]; omega
  go_enter Try.func64, Try.ntmps64
  go_wp2_with fail
  refine (l02Vert_any _ _ _ _ ⟨_, _, _, rfl⟩).mono ?_
  rintro e w1 ⟨rfl, hb1⟩
  have hk1 := (Blk.new w 39 #[.int .i64 N, .slice A es.length c]).below hb1 (by simp)
  have B1 := ((Below.refl w.heap.size w).alloc (Nat.le_refl _) (.cells #[.int .i64 N, .slice A es.length c] 39)).trans (hb1.mono (by simp))
  have c0 : w1.cell? ⟨w.heap.size, 0, none⟩ = some (.int .i64 N) := by rw [hk1.cell]; rfl
  have c1 : w1.cell? ⟨w.heap.size, 1, none⟩ = some (.slice A es.length c) := by rw [hk1.cell]; rfl
  clear hb1
  go_wp2_with fail
  refine (l02Vert_any _ _ _ _ ⟨_, _, _, rfl⟩).mono ?_
  rintro e w2 ⟨rfl, hb2⟩
  have hk2 := hk1.below hb2 hk1.lt
  have B2 := B1.trans (hb2.mono B1.size)
  clear c0 c1 hb2 hk1 B1
  have c0 : w2.cell? ⟨w.heap.size, 0, none⟩ = some (.int .i64 N) := by rw [hk2.cell]; rfl
  have c1 : w2.cell? ⟨w.heap.size, 1, none⟩ = some (.slice A es.length c) := by rw [hk2.cell]; rfl
  clear hk2
  go_wp2
  go_loopw [7, 28] (fun n i wr => ∃ k : Nat, k ≤ es.length ∧ i = .int .i64 k ∧ n = .int .i64 ((es.take k).count (b, a)) ∧ Below w.heap.size w wr) (fun _ i _ => es.length - (intOf i).toNat)
  case atStart => exact ⟨0, Nat.zero_le _, rfl, rfl, B2⟩
  case round =>
    obtain ⟨k, hk, rfl, rfl, hbw⟩ := hrel
    clear c0 c1
    by_cases hlt : k < es.length
    · obtain ⟨b1, o1, e, rfl, hb1, he, hc0, hc1⟩ := (HE.out.below hbw).at_ hlt
      have hi0 : (0 : Int) ≤ (k : Int) := Int.natCast_nonneg _
      have hi1 : (k : Int) < (es.length : Int) := by omega
      have HS := Lib.hid (count_snoc (f := (b, a)) he)
      have hcl := count_le (es := es) k (b, a)
      have hz0 : (0 : Int) ≤ ((es.take k).count (b, a) : Int) := Int.natCast_nonneg _
      clear he
      by_cases h1 : e.1 = b
      · have t1 : (e.1 == b) = true := by rw [beq_iff_eq]; exact h1
        have HH1 := Lib.hid h1
        clear h1
        by_cases h2 : e.2 = a
        · have t2 : (e.2 == a) = true := by rw [beq_iff_eq]; exact h2
          have HQ := HS.out
          rw [if_pos (Prod.ext HH1.out h2)] at HQ
          have HQ2 := Lib.hid HQ
          clear HQ h2
          go_wp2
          exact ⟨⟨k + 1, by omega, by go_num, by rw [HQ2.out]; go_num, hbw.alloc hbw.size _⟩, by simp [intOf]; omega⟩
        · have t2 : (e.2 == a) = false := by rw [beq_eq_false_iff_ne]; exact h2
          have HQ := HS.out
          rw [if_neg (fun he => h2 (by rw [he]))] at HQ
          have HQ2 := Lib.hid HQ
          clear HQ h2
          go_wp2
          exact ⟨⟨k + 1, by omega, by go_num, by rw [HQ2.out]; rfl, hbw.alloc hbw.size _⟩, by simp [intOf]; omega⟩
      · have t1 : (e.1 == b) = false := by rw [beq_eq_false_iff_ne]; exact h1
        have HQ := HS.out
        rw [if_neg (fun he => h1 (by rw [he]))] at HQ
        have HQ2 := Lib.hid HQ
        clear HQ h1
        go_wp2
        exact ⟨⟨k + 1, by omega, by go_num, by rw [HQ2.out]; rfl, hbw.alloc hbw.size _⟩, by simp [intOf]; omega⟩
    · have HA := Lib.hid (show (es.take k).count (b, a) = es.count (b, a) by rw [List.take_of_length_le (by omega)])
      go_wp2
      go_ret
      exact ⟨ret_intE (congrArg Int.ofNat HA.out), hbw⟩

set_option maxHeartbeats 1000000 in
theorem specMult_no (N : Int) (A : Option Addr) (c : Nat) (es : List (Int × Int)) (a b : Int) (w : World) (h : vB a N = false ∨ (vB a N = true ∧ vB b N = false) ∨ (vB a N = true ∧ vB b N = true ∧ a = b)) :
    Calls Try.prog 64 #[.agg #[.int .i64 N, .slice A es.length c], .int .i64 a, .int .i64 b] w fun e w' => e = .returned (.int .i64 0) ∧ Below w.heap.size w w' := by
  have B0 := (Below.refl w.heap.size w).alloc (Nat.le_refl _) (.cells #[.int .i64 N, .slice A es.length c] 39)
  rcases h with ha | ⟨ha, hb⟩ | ⟨ha, hb, hab⟩
  · go_enter Try.func64, Try.ntmps64
    go_wp2_with fail
    refine (l02Vert_any _ _ _ _ ⟨_, _, _, rfl⟩).mono ?_
    rintro e w1 ⟨rfl, hb1⟩
    go_wp2
    go_ret
    exact ⟨rfl, B0.trans (hb1.mono B0.size)⟩
  · go_enter Try.func64, Try.ntmps64
    go_wp2_with fail
    refine (l02Vert_any _ _ _ _ ⟨_, _, _, rfl⟩).mono ?_
    rintro e w1 ⟨rfl, hb1⟩
    have hk1 := (Blk.new w 39 #[.int .i64 N, .slice A es.length c]).below hb1 (by simp)
    have c0 : w1.cell? ⟨w.heap.size, 0, none⟩ = some (.int .i64 N) := by rw [hk1.cell]; rfl
    have c1 : w1.cell? ⟨w.heap.size, 1, none⟩ = some (.slice A es.length c) := by rw [hk1.cell]; rfl
    have B1 := B0.trans (hb1.mono B0.size)
    clear hb1
    go_wp2_with fail
    refine (l02Vert_any _ _ _ _ ⟨_, _, _, rfl⟩).mono ?_
    rintro e w2 ⟨rfl, hb2⟩
    have B2 := B1.trans (hb2.mono B1.size)
    go_wp2
    go_ret
    exact ⟨rfl, B2⟩
  · have hne : (a == b) = true := by rw [beq_iff_eq]; exact hab
    clear hab
    go_enter Try.func64, Try.ntmps64
    go_wp2_with fail
    refine (l02Vert_any _ _ _ _ ⟨_, _, _, rfl⟩).mono ?_
    rintro e w1 ⟨rfl, hb1⟩
    have hk1 := (Blk.new w 39 #[.int .i64 N, .slice A es.length c]).below hb1 (by simp)
    have c0 : w1.cell? ⟨w.heap.size, 0, none⟩ = some (.int .i64 N) := by rw [hk1.cell]; rfl
    have c1 : w1.cell? ⟨w.heap.size, 1, none⟩ = some (.slice A es.length c) := by rw [hk1.cell]; rfl
    have B1 := B0.trans (hb1.mono B0.size)
    clear hb1
    go_wp2_with fail
    refine (l02Vert_any _ _ _ _ ⟨_, _, _, rfl⟩).mono ?_
    rintro e w2 ⟨rfl, hb2⟩
    have B2 := B1.trans (hb2.mono B1.size)
    go_wp2
    go_ret
    exact ⟨rfl, B2⟩
theorem specMultU (N : Int) (A : Option Addr) (c : Nat) (es : List (Int × Int)) (a b : Int) (w : World) (hn : es.length ≤ 1048576) (hE : EdgeS w w.heap.size A es) :
    Calls Try.prog 64 #[.agg #[.int .i64 N, .slice A es.length c], .int .i64 a, .int .i64 b] w fun e w' => e = .returned (.int .i64 (multB N es a b)) ∧ Below w.heap.size w w' := by
  cases ha : vB a N with
  | false => rw [multB_no (.inl ha)]; exact specMult_no N A c es a b w (.inl ha)
  | true =>
    cases hb : vB b N with
    | false => rw [multB_no (.inr (.inl hb))]; exact specMult_no N A c es a b w (.inr (.inl ⟨ha, hb⟩))
    | true =>
      by_cases hab : a = b
      · rw [multB_no (.inr (.inr hab))]; exact specMult_no N A c es a b w (.inr (.inr ⟨ha, hb, hab⟩))
      · rw [multB_yes ha hb hab]
        by_cases h : a < b
        · rw [show min a b = a by omega, show max a b = b by omega]; exact specMult_lt N A c es a b w hn ha hb h hE
        · rw [show min a b = b by omega, show max a b = a by omega]; exact specMult_gt N A c es a b w hn ha hb (by omega) hE
end Go.Proofs.Ytkmbdclhjdbhpab
