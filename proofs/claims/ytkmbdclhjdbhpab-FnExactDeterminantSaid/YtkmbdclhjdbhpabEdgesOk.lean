/- The two functions that tell whether a graph's edges keep the limits answer alike: one plain Bool function of the number and the edges. -/
import Derived.Test.YtkmbdclhjdbhpabToEdge
namespace Go.Proofs.Ytkmbdclhjdbhpab
open Go.RowKit

def inB (a lo hi : Int) : Bool := decide (lo ≤ a) && decide (a ≤ hi)
theorem inB_t {a lo hi : Int} (h : lo ≤ a ∧ a ≤ hi) : inB a lo hi = true := by simp [inB, h.1, h.2]
theorem inB_f {a lo hi : Int} (h : a < lo ∨ hi < a) : inB a lo hi = false := by
  simp only [inB, Bool.and_eq_false_iff, decide_eq_false_iff_not]
  omega
set_option maxHeartbeats 400000 in
theorem l01In_any (a lo hi : Int) (w : World) : Calls Try.prog 68 #[.int .i64 a, .int .i64 lo, .int .i64 hi] w fun e w' => e = .returned (.bool (inB a lo hi)) ∧ w = w' := by
  by_cases h : lo ≤ a
  · by_cases h2 : a ≤ hi
    · rw [inB_t ⟨h, h2⟩]
      go_enter Try.func68, Try.ntmps68
      go_wp2
      go_ret
      exact ⟨rfl, rfl⟩
    · rw [inB_f (.inr (by omega))]
      have h3 : hi < a := by omega
      clear h2
      go_enter Try.func68, Try.ntmps68
      go_wp2
      go_ret
      exact ⟨ret_boolE (decide_eq_false (by omega)), rfl⟩
  · rw [inB_f (.inl (by omega))]
    have h3 : a < lo := by omega
    clear h
    go_enter Try.func68, Try.ntmps68
    go_wp2
    go_ret
    exact ⟨rfl, rfl⟩

def edgeOk (N : Int) (e : Int × Int) : Bool := decide (0 ≤ e.1) && decide (e.1 < e.2) && decide (e.2 < N)
def edgesB (N : Int) (es : List (Int × Int)) : Bool := decide (1 ≤ N) && decide (N ≤ 6) && decide (es.length ≤ 12) && es.all (edgeOk N)
theorem edgesB_size {N : Int} {es : List (Int × Int)} (h : N < 1 ∨ 6 < N ∨ 12 < es.length) : edgesB N es = false := by
  simp only [edgesB, Bool.and_eq_false_iff, decide_eq_false_iff_not]
  omega
theorem edgesB_miss {N : Int} {es : List (Int × Int)} {k : Nat} {e : Int × Int} (he : es[k]? = some e) (h : edgeOk N e = false) : edgesB N es = false := by
  have : es.all (edgeOk N) = false := by
    rw [List.all_eq_false]
    exact ⟨e, List.mem_of_getElem? he, by simp [h]⟩
  simp [edgesB, this]
theorem edgesB_all {N : Int} {es : List (Int × Int)} (h1 : 1 ≤ N) (h2 : N ≤ 6) (h3 : es.length ≤ 12) (h : es.all (edgeOk N) = true) : edgesB N es = true := by simp [edgesB, h1, h2, h3, h]
theorem allTake_snoc {α : Type} {es : List α} {p : α → Bool} {k : Nat} {e : α} (ht : (es.take k).all p = true) (he : es[k]? = some e) (hp : p e = true) : (es.take (k + 1)).all p = true := by
  rw [List.take_add_one, he, List.all_append, ht]
  simp [hp]
theorem allTake_end {α : Type} {es : List α} {p : α → Bool} {k : Nat} (ht : (es.take k).all p = true) (h : es.length ≤ k) : es.all p = true := by rwa [List.take_of_length_le h] at ht
theorem edgeOk_t {N : Int} {e : Int × Int} (h1 : 0 ≤ e.1) (h2 : e.1 < e.2) (h3 : e.2 < N) : edgeOk N e = true := by simp [edgeOk, h1, h2, h3]
theorem edgeOk_f {N : Int} {e : Int × Int} (h : e.1 < 0 ∨ e.2 ≤ e.1 ∨ N ≤ e.2) : edgeOk N e = false := by
  simp only [edgeOk, Bool.and_eq_false_iff, decide_eq_false_iff_not]
  omega

set_option maxHeartbeats 1000000 in
theorem specEdgesOk (N : Int) (A : Option Addr) (c : Nat) (es : List (Int × Int)) (w : World) (hn : es.length ≤ 9223372036854775807) (hE : EdgeS w w.heap.size A es) :
    Calls Try.prog 96 #[.agg #[.int .i64 N, .slice A es.length c]] w fun e w' => e = .returned (.bool (edgesB N es)) ∧ Below w.heap.size w w' := by
  have HE := Lib.hid hE
  clear hE
  by_cases hN : N < 1 ∨ 6 < N
  · have H := Lib.hid (edgesB_size (es := es) (N := N) (by omega))
    have hin : inB N 1 6 = false := inB_f hN
    clear hN
    go_enter Try.func96, Try.ntmps96
    go_wp2_with (go_at_call 68; refine (l01In_any _ _ _ _).mono ?_; rintro e w' ⟨rfl, rfl⟩)
    go_ret
    exact ⟨ret_boolE H.out.symm, (Below.refl _ _).alloc (Nat.le_refl _) _⟩
  have h1 : 1 ≤ N := by omega
  have h6 : N ≤ 6 := by omega
  have hin : inB N 1 6 = true := inB_t ⟨h1, h6⟩
  clear hN
  by_cases h12 : 12 < es.length
  · have H := Lib.hid (edgesB_size (es := es) (N := N) (by omega))
    go_enter Try.func96, Try.ntmps96
    go_wp2_with (go_at_call 68; refine (l01In_any _ _ _ _).mono ?_; rintro e w' ⟨rfl, rfl⟩)
    go_ret
    exact ⟨ret_boolE H.out.symm, (Below.refl _ _).alloc (Nat.le_refl _) _⟩
  have h12' : es.length ≤ 12 := by omega
  clear h12
  go_enter Try.func96, Try.ntmps96
  go_wp2_with (go_at_call 68; refine (l01In_any _ _ _ _).mono ?_; rintro e w' ⟨rfl, rfl⟩)
  go_loopw [18] (fun i wr => ∃ k : Nat, k ≤ es.length ∧ i = .int .i64 k ∧ (es.take k).all (edgeOk N) = true ∧ Blk wr w.heap.size 39 #[.int .i64 N, .slice A es.length c] ∧ Below w.heap.size w wr) (fun i _ => es.length - (intOf i).toNat)
  case atStart => exact ⟨0, Nat.zero_le _, rfl, rfl, Blk.new w _ _, (Below.refl _ _).alloc (Nat.le_refl _) _⟩
  case round =>
    obtain ⟨k, hk, rfl, hall, hblk, hb⟩ := hrel
    have HA := Lib.hid hall
    have hcN : wr.cell? ⟨w.heap.size, 0, none⟩ = some (.int .i64 N) := by rw [hblk.cell]; rfl
    have hlt0 := hblk.lt
    have HB := Lib.hid hblk
    clear hall hblk
    by_cases hlt : k < es.length
    · obtain ⟨b1, o1, e, rfl, hb1, he, hc0, hc1⟩ := (HE.out.below hb).at_ hlt
      have hi0 : (0 : Int) ≤ (k : Int) := Int.natCast_nonneg _
      have hi1 : (k : Int) < (es.length : Int) := by omega
      have HX := Lib.hid he
      clear he
      by_cases c1 : e.1 < 0 ∨ N - 1 < e.1
      · have hin1 : inB e.1 0 (N - 1) = false := inB_f c1
        have H := Lib.hid (edgesB_miss HX.out (edgeOk_f (N := N) (e := e) (by omega)))
        clear c1
        go_wp2_with (go_at_call 68; refine (l01In_any _ _ _ _).mono ?_; rintro e w' ⟨rfl, rfl⟩)
        go_ret
        exact ⟨ret_boolE H.out.symm, hb.alloc hb.size _⟩
      have hin1 : inB e.1 0 (N - 1) = true := inB_t (by omega)
      have g0 : 0 ≤ e.1 := by omega
      have g1 : e.1 ≤ N - 1 := by omega
      clear c1
      by_cases c2 : e.2 < e.1 + 1 ∨ N - 1 < e.2
      · have hin2 : inB e.2 (e.1 + 1) (N - 1) = false := inB_f c2
        have H := Lib.hid (edgesB_miss HX.out (edgeOk_f (N := N) (e := e) (by omega)))
        clear c2
        go_wp2_with (go_at_call 68; refine (l01In_any _ _ _ _).mono ?_; rintro e w' ⟨rfl, rfl⟩)
        go_ret
        exact ⟨ret_boolE H.out.symm, hb.alloc hb.size _⟩
      · have hin2 : inB e.2 (e.1 + 1) (N - 1) = true := inB_t (by omega)
        have H := Lib.hid (allTake_snoc HA.out HX.out (edgeOk_t (N := N) g0 (by omega) (by omega)))
        clear c2
        go_wp2_with (go_at_call 68; refine (l01In_any _ _ _ _).mono ?_; rintro e w' ⟨rfl, rfl⟩)
        exact ⟨⟨k + 1, by omega, by go_num, H.out, HB.out.alloc _, hb.alloc hb.size _⟩, by simp [intOf]; omega⟩
    · have H := Lib.hid (edgesB_all h1 h6 h12' (allTake_end HA.out (by omega)))
      go_wp2
      go_ret
      exact ⟨ret_boolE H.out.symm, hb⟩

set_option maxHeartbeats 1000000 in
theorem implEdgesOk (N : Int) (A : Option Addr) (c : Nat) (es : List (Int × Int)) (w : World) (hn : es.length ≤ 9223372036854775807) (hE : EdgeS w w.heap.size A es) :
    Calls Try.prog 91 #[.agg #[.int .i64 N, .slice A es.length c]] w fun e w' => e = .returned (.bool (edgesB N es)) ∧ Below w.heap.size w w' := by
  have HE := Lib.hid hE
  clear hE
  by_cases hN : N < 1
  · have H := Lib.hid (edgesB_size (es := es) (N := N) (by omega))
    go_enter Try.func91, Try.ntmps91
    go_wp2
    go_ret
    exact ⟨ret_boolE H.out.symm, (Below.refl _ _).alloc (Nat.le_refl _) _⟩
  have h1 : 1 ≤ N := by omega
  clear hN
  by_cases hN : 6 < N
  · have H := Lib.hid (edgesB_size (es := es) (N := N) (by omega))
    have hd : decide (N < 1) = false := decide_eq_false (by omega)
    go_enter Try.func91, Try.ntmps91
    go_wp2
    go_ret
    exact ⟨ret_boolE H.out.symm, (Below.refl _ _).alloc (Nat.le_refl _) _⟩
  have h6 : N ≤ 6 := by omega
  clear hN
  have hd1 : decide (N < 1) = false := decide_eq_false (by omega)
  have hd2 : decide (6 < N) = false := decide_eq_false (by omega)
  by_cases h12 : 12 < es.length
  · have H := Lib.hid (edgesB_size (es := es) (N := N) (by omega))
    go_enter Try.func91, Try.ntmps91
    go_wp2
    go_ret
    exact ⟨ret_boolE H.out.symm, (Below.refl _ _).alloc (Nat.le_refl _) _⟩
  have h12' : es.length ≤ 12 := by omega
  clear h12
  go_enter Try.func91, Try.ntmps91
  go_wp2
  go_loopw [22] (fun i wr => ∃ k : Nat, k ≤ es.length ∧ i = .int .i64 k ∧ (es.take k).all (edgeOk N) = true ∧ Blk wr w.heap.size 39 #[.int .i64 N, .slice A es.length c] ∧ Below w.heap.size w wr) (fun i _ => es.length - (intOf i).toNat)
  case atStart => exact ⟨0, Nat.zero_le _, rfl, rfl, Blk.new w _ _, (Below.refl _ _).alloc (Nat.le_refl _) _⟩
  case round =>
    obtain ⟨k, hk, rfl, hall, hblk, hb⟩ := hrel
    have HA := Lib.hid hall
    have hcN : wr.cell? ⟨w.heap.size, 0, none⟩ = some (.int .i64 N) := by rw [hblk.cell]; rfl
    have hlt0 := hblk.lt
    have HB := Lib.hid hblk
    clear hall hblk
    by_cases hlt : k < es.length
    · obtain ⟨b1, o1, e, rfl, hb1, he, hc0, hc1⟩ := (HE.out.below hb).at_ hlt
      have hi0 : (0 : Int) ≤ (k : Int) := Int.natCast_nonneg _
      have hi1 : (k : Int) < (es.length : Int) := by omega
      have HX := Lib.hid he
      clear he
      by_cases c1 : e.1 < 0
      · have H := Lib.hid (edgesB_miss HX.out (edgeOk_f (N := N) (e := e) (by omega)))
        have g1 : decide (e.1 < 0) = true := decide_eq_true c1
        go_wp2
        go_ret
        exact ⟨ret_boolE H.out.symm, hb.alloc hb.size _⟩
      have c1' : 0 ≤ e.1 := by omega
      have g1 : decide (e.1 < 0) = false := decide_eq_false c1
      clear c1
      by_cases c2 : e.2 ≤ e.1
      · have H := Lib.hid (edgesB_miss HX.out (edgeOk_f (N := N) (e := e) (by omega)))
        have g2 : decide (e.2 ≤ e.1) = true := decide_eq_true c2
        go_wp2
        go_ret
        exact ⟨ret_boolE H.out.symm, hb.alloc hb.size _⟩
      have c2' : e.1 < e.2 := by omega
      have g2 : decide (e.2 ≤ e.1) = false := decide_eq_false c2
      clear c2
      by_cases c3 : N ≤ e.2
      · have H := Lib.hid (edgesB_miss HX.out (edgeOk_f (N := N) (e := e) (by omega)))
        have g3 : decide (N ≤ e.2) = true := decide_eq_true c3
        go_wp2
        go_ret
        exact ⟨ret_boolE H.out.symm, hb.alloc hb.size _⟩
      · have c3' : e.2 < N := by omega
        have g3 : decide (N ≤ e.2) = false := decide_eq_false c3
        have H := Lib.hid (allTake_snoc HA.out HX.out (edgeOk_t (N := N) c1' c2' c3'))
        clear c3
        go_wp2
        exact ⟨⟨k + 1, by omega, by go_num, H.out, HB.out.alloc _, hb.alloc hb.size _⟩, by simp [intOf]; omega⟩
    · have H := Lib.hid (edgesB_all h1 h6 h12' (allTake_end HA.out (by omega)))
      go_wp2
      go_ret
      exact ⟨ret_boolE H.out.symm, hb⟩

theorem specEdgesOkU (N : Int) (A : Option Addr) (c : Nat) (es : List (Int × Int)) (w : World) (hn : es.length ≤ 1048576) (_ : ∀ e ∈ es, (Lit.int .i64 e.1).wf = true ∧ (Lit.int .i64 e.2).wf = true) (_ : -9223372036854775808 ≤ N) (_ : N ≤ 9223372036854775807) (hE : EdgeS w w.heap.size A es) :
    Calls Try.prog 96 #[.agg #[.int .i64 N, .slice A es.length c]] w fun e w' => e = .returned (.bool (edgesB N es)) ∧ Below w.heap.size w w' := specEdgesOk N A c es w (by omega) hE
theorem implEdgesOkU (N : Int) (A : Option Addr) (c : Nat) (es : List (Int × Int)) (w : World) (hn : es.length ≤ 1048576) (_ : ∀ e ∈ es, (Lit.int .i64 e.1).wf = true ∧ (Lit.int .i64 e.2).wf = true) (_ : -9223372036854775808 ≤ N) (_ : N ≤ 9223372036854775807) (hE : EdgeS w w.heap.size A es) :
    Calls Try.prog 91 #[.agg #[.int .i64 N, .slice A es.length c]] w fun e w' => e = .returned (.bool (edgesB N es)) ∧ Below w.heap.size w w' := implEdgesOk N A c es w (by omega) hE
end Go.Proofs.Ytkmbdclhjdbhpab
