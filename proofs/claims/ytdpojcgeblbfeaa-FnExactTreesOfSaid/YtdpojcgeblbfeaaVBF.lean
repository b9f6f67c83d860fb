/- One text out of several: EdgesOk Within VertB EdgeMap EdgeRange Count MultS. -/
import Derived.Test.YtdpojcgeblbfeaaVBA
import Derived.DeepKeys4
import Derived.WideKeyEntry
import Derived.Maps.RangeWalk
import Derived.Maps.OwnOps
import Derived.Maps.OwnSet
import Derived.Maps.Views
import Derived.WalkKit
import Derived.WalkArith
import Derived.RegionTactic
import Derived.ChangeAlike
set_option linter.all false
/- The two functions that tell whether a graph's edges keep the limits answer alike: one plain Bool function of the number and the edges. -/
namespace Go.Proofs.Ytdpojcgeblbfeaa
open Go.RowKit

def inB (a lo hi : Int) : Bool := decide (lo ≤ a) && decide (a ≤ hi)
theorem inB_t {a lo hi : Int} (h : lo ≤ a ∧ a ≤ hi) : inB a lo hi = true := by simp [inB, h.1, h.2]
theorem inB_f {a lo hi : Int} (h : a < lo ∨ hi < a) : inB a lo hi = false := by
  simp only [inB, Bool.and_eq_false_iff, decide_eq_false_iff_not]
  omega
set_option maxHeartbeats 400000 in
theorem l01In_any (a lo hi : Int) (w : World) : Calls Try.prog 68 #[.int .i64 a, .int .i64 lo, .int .i64 hi] w fun e w' => e = .returned (.bool (inB a lo hi)) ∧ w = w' := by
  by_cases h : lo ≤ a
  · by_cases h2 : a ≤ hi
    · rw [inB_t ⟨h, h2⟩]
      go_enter Try.func68, Try.ntmps68
      go_wp2
      go_ret
      exact ⟨rfl, rfl⟩
    · rw [inB_f (.inr (by omega))]
      have h3 : hi < a := by omega
      clear h2
      go_enter Try.func68, Try.ntmps68
      go_wp2
      go_ret
      exact ⟨ret_boolE (decide_eq_false (by omega)), rfl⟩
  · rw [inB_f (.inl (by omega))]
    have h3 : a < lo := by omega
    clear h
    go_enter Try.func68, Try.ntmps68
    go_wp2
    go_ret
    exact ⟨rfl, rfl⟩

def edgeOk (N : Int) (e : Int × Int) : Bool := decide (0 ≤ e.1) && decide (e.1 < e.2) && decide (e.2 < N)
def edgesB (N : Int) (es : List (Int × Int)) : Bool := decide (1 ≤ N) && decide (N ≤ 6) && decide (es.length ≤ 12) && es.all (edgeOk N)
theorem edgesB_size {N : Int} {es : List (Int × Int)} (h : N < 1 ∨ 6 < N ∨ 12 < es.length) : edgesB N es = false := by
  simp only [edgesB, Bool.and_eq_false_iff, decide_eq_false_iff_not]
  omega
theorem edgesB_miss {N : Int} {es : List (Int × Int)} {k : Nat} {e : Int × Int} (he : es[k]? = some e) (h : edgeOk N e = false) : edgesB N es = false := by
  have : es.all (edgeOk N) = false := by
    rw [List.all_eq_false]
    exact ⟨e, List.mem_of_getElem? he, by simp [h]⟩
  simp [edgesB, this]
theorem edgesB_all {N : Int} {es : List (Int × Int)} (h1 : 1 ≤ N) (h2 : N ≤ 6) (h3 : es.length ≤ 12) (h : es.all (edgeOk N) = true) : edgesB N es = true := by simp [edgesB, h1, h2, h3, h]
theorem allTake_snoc {α : Type} {es : List α} {p : α → Bool} {k : Nat} {e : α} (ht : (es.take k).all p = true) (he : es[k]? = some e) (hp : p e = true) : (es.take (k + 1)).all p = true := by
  rw [List.take_add_one, he, List.all_append, ht]
  simp [hp]
theorem allTake_end {α : Type} {es : List α} {p : α → Bool} {k : Nat} (ht : (es.take k).all p = true) (h : es.length ≤ k) : es.all p = true := by rwa [List.take_of_length_le h] at ht
theorem edgeOk_t {N : Int} {e : Int × Int} (h1 : 0 ≤ e.1) (h2 : e.1 < e.2) (h3 : e.2 < N) : edgeOk N e = true := by simp [edgeOk, h1, h2, h3]
theorem edgeOk_f {N : Int} {e : Int × Int} (h : e.1 < 0 ∨ e.2 ≤ e.1 ∨ N ≤ e.2) : edgeOk N e = false := by
  simp only [edgeOk, Bool.and_eq_false_iff, decide_eq_false_iff_not]
  omega

set_option maxHeartbeats 1000000 in
theorem specEdgesOk (N : Int) (A : Option Addr) (c : Nat) (es : List (Int × Int)) (w : World) (hn : es.length ≤ 9223372036854775807) (hE : EdgeS w w.heap.size A es) :
    Calls Try.prog 120 #[.agg #[.int .i64 N, .slice A es.length c]] w fun e w' => e = .returned (.bool (edgesB N es)) ∧ Below w.heap.size w w' := by
  have HE := Lib.hid hE
  clear hE
  by_cases hN : N < 1 ∨ 6 < N
  · have H := Lib.hid (edgesB_size (es := es) (N := N) (by omega))
    have hin : inB N 1 6 = false := inB_f hN
    clear hN
    go_enter Try.func120, Try.ntmps120
    go_wp2_with (go_at_call 68; refine (l01In_any _ _ _ _).mono ?_; rintro e w' ⟨rfl, rfl⟩)
    go_ret
    exact ⟨ret_boolE H.out.symm, (Below.refl _ _).alloc (Nat.le_refl _) _⟩
  have h1 : 1 ≤ N := by omega
  have h6 : N ≤ 6 := by omega
  have hin : inB N 1 6 = true := inB_t ⟨h1, h6⟩
  clear hN
  by_cases h12 : 12 < es.length
  · have H := Lib.hid (edgesB_size (es := es) (N := N) (by omega))
    go_enter Try.func120, Try.ntmps120
    go_wp2_with (go_at_call 68; refine (l01In_any _ _ _ _).mono ?_; rintro e w' ⟨rfl, rfl⟩)
    go_ret
    exact ⟨ret_boolE H.out.symm, (Below.refl _ _).alloc (Nat.le_refl _) _⟩
  have h12' : es.length ≤ 12 := by omega
  clear h12
  go_enter Try.func120, Try.ntmps120
  go_wp2_with (go_at_call 68; refine (l01In_any _ _ _ _).mono ?_; rintro e w' ⟨rfl, rfl⟩)
  go_loopw [18] (fun i wr => ∃ k : Nat, k ≤ es.length ∧ i = .int .i64 k ∧ (es.take k).all (edgeOk N) = true ∧ Blk wr w.heap.size 25 #[.int .i64 N, .slice A es.length c] ∧ Below w.heap.size w wr) (fun i _ => es.length - (intOf i).toNat)
  case atStart => exact ⟨0, Nat.zero_le _, rfl, rfl, Blk.new w _ _, (Below.refl _ _).alloc (Nat.le_refl _) _⟩
  case round =>
    obtain ⟨k, hk, rfl, hall, hblk, hb⟩ := hrel
    have HA := Lib.hid hall
    have hcN : wr.cell? ⟨w.heap.size, 0, none⟩ = some (.int .i64 N) := by rw [hblk.cell]; rfl
    have hlt0 := hblk.lt
    have HB := Lib.hid hblk
    clear hall hblk
    by_cases hlt : k < es.length
    · obtain ⟨b1, o1, e, rfl, hb1, he, hc0, hc1⟩ := (HE.out.below hb).at_ hlt
      have hi0 : (0 : Int) ≤ (k : Int) := Int.natCast_nonneg _
      have hi1 : (k : Int) < (es.length : Int) := by omega
      have HX := Lib.hid he
      clear he
      by_cases c1 : e.1 < 0 ∨ N - 1 < e.1
      · have hin1 : inB e.1 0 (N - 1) = false := inB_f c1
        have H := Lib.hid (edgesB_miss HX.out (edgeOk_f (N := N) (e := e) (by omega)))
        clear c1
        go_wp2_with (go_at_call 68; refine (l01In_any _ _ _ _).mono ?_; rintro e w' ⟨rfl, rfl⟩)
        go_ret
        exact ⟨ret_boolE H.out.symm, hb.alloc hb.size _⟩
      have hin1 : inB e.1 0 (N - 1) = true := inB_t (by omega)
      have g0 : 0 ≤ e.1 := by omega
      have g1 : e.1 ≤ N - 1 := by omega
      clear c1
      by_cases c2 : e.2 < e.1 + 1 ∨ N - 1 < e.2
      · have hin2 : inB e.2 (e.1 + 1) (N - 1) = false := inB_f c2
        have H := Lib.hid (edgesB_miss HX.out (edgeOk_f (N := N) (e := e) (by omega)))
        clear c2
        go_wp2_with (go_at_call 68; refine (l01In_any _ _ _ _).mono ?_; rintro e w' ⟨rfl, rfl⟩)
        go_ret
        exact ⟨ret_boolE H.out.symm, hb.alloc hb.size _⟩
      · have hin2 : inB e.2 (e.1 + 1) (N - 1) = true := inB_t (by omega)
        have H := Lib.hid (allTake_snoc HA.out HX.out (edgeOk_t (N := N) g0 (by omega) (by omega)))
        clear c2
        go_wp2_with (go_at_call 68; refine (l01In_any _ _ _ _).mono ?_; rintro e w' ⟨rfl, rfl⟩)
        exact ⟨⟨k + 1, by omega, by go_num, H.out, HB.out.alloc _, hb.alloc hb.size _⟩, by simp [intOf]; omega⟩
    · have H := Lib.hid (edgesB_all h1 h6 h12' (allTake_end HA.out (by omega)))
      go_wp2
      go_ret
      exact ⟨ret_boolE H.out.symm, hb⟩

set_option maxHeartbeats 1000000 in
theorem implEdgesOk (N : Int) (A : Option Addr) (c : Nat) (es : List (Int × Int)) (w : World) (hn : es.length ≤ 9223372036854775807) (hE : EdgeS w w.heap.size A es) :
    Calls Try.prog 111 #[.agg #[.int .i64 N, .slice A es.length c]] w fun e w' => e = .returned (.bool (edgesB N es)) ∧ Below w.heap.size w w' := by
  have HE := Lib.hid hE
  clear hE
  by_cases hN : N < 1
  · have H := Lib.hid (edgesB_size (es := es) (N := N) (by omega))
    go_enter Try.func111, Try.ntmps111
    go_wp2
    go_ret
    exact ⟨ret_boolE H.out.symm, (Below.refl _ _).alloc (Nat.le_refl _) _⟩
  have h1 : 1 ≤ N := by omega
  clear hN
  by_cases hN : 6 < N
  · have H := Lib.hid (edgesB_size (es := es) (N := N) (by omega))
    have hd : decide (N < 1) = false := decide_eq_false (by omega)
    go_enter Try.func111, Try.ntmps111
    go_wp2
    go_ret
    exact ⟨ret_boolE H.out.symm, (Below.refl _ _).alloc (Nat.le_refl _) _⟩
  have h6 : N ≤ 6 := by omega
  clear hN
  have hd1 : decide (N < 1) = false := decide_eq_false (by omega)
  have hd2 : decide (6 < N) = false := decide_eq_false (by omega)
  by_cases h12 : 12 < es.length
  · have H := Lib.hid (edgesB_size (es := es) (N := N) (by omega))
    go_enter Try.func111, Try.ntmps111
    go_wp2
    go_ret
    exact ⟨ret_boolE H.out.symm, (Below.refl _ _).alloc (Nat.le_refl _) _⟩
  have h12' : es.length ≤ 12 := by omega
  clear h12
  go_enter Try.func111, Try.ntmps111
  go_wp2
  go_loopw [22] (fun i wr => ∃ k : Nat, k ≤ es.length ∧ i = .int .i64 k ∧ (es.take k).all (edgeOk N) = true ∧ Blk wr w.heap.size 25 #[.int .i64 N, .slice A es.length c] ∧ Below w.heap.size w wr) (fun i _ => es.length - (intOf i).toNat)
  case atStart => exact ⟨0, Nat.zero_le _, rfl, rfl, Blk.new w _ _, (Below.refl _ _).alloc (Nat.le_refl _) _⟩
  case round =>
    obtain ⟨k, hk, rfl, hall, hblk, hb⟩ := hrel
    have HA := Lib.hid hall
    have hcN : wr.cell? ⟨w.heap.size, 0, none⟩ = some (.int .i64 N) := by rw [hblk.cell]; rfl
    have hlt0 := hblk.lt
    have HB := Lib.hid hblk
    clear hall hblk
    by_cases hlt : k < es.length
    · obtain ⟨b1, o1, e, rfl, hb1, he, hc0, hc1⟩ := (HE.out.below hb).at_ hlt
      have hi0 : (0 : Int) ≤ (k : Int) := Int.natCast_nonneg _
      have hi1 : (k : Int) < (es.length : Int) := by omega
      have HX := Lib.hid he
      clear he
      by_cases c1 : e.1 < 0
      · have H := Lib.hid (edgesB_miss HX.out (edgeOk_f (N := N) (e := e) (by omega)))
        have g1 : decide (e.1 < 0) = true := decide_eq_true c1
        go_wp2
        go_ret
        exact ⟨ret_boolE H.out.symm, hb.alloc hb.size _⟩
      have c1' : 0 ≤ e.1 := by omega
      have g1 : decide (e.1 < 0) = false := decide_eq_false c1
      clear c1
      by_cases c2 : e.2 ≤ e.1
      · have H := Lib.hid (edgesB_miss HX.out (edgeOk_f (N := N) (e := e) (by omega)))
        have g2 : decide (e.2 ≤ e.1) = true := decide_eq_true c2
        go_wp2
        go_ret
        exact ⟨ret_boolE H.out.symm, hb.alloc hb.size _⟩
      have c2' : e.1 < e.2 := by omega
      have g2 : decide (e.2 ≤ e.1) = false := decide_eq_false c2
      clear c2
      by_cases c3 : N ≤ e.2
      · have H := Lib.hid (edgesB_miss HX.out (edgeOk_f (N := N) (e := e) (by omega)))
        have g3 : decide (N ≤ e.2) = true := decide_eq_true c3
        go_wp2
        go_ret
        exact ⟨ret_boolE H.out.symm, hb.alloc hb.size _⟩
      · have c3' : e.2 < N := by omega
        have g3 : decide (N ≤ e.2) = false := decide_eq_false c3
        have H := Lib.hid (allTake_snoc HA.out HX.out (edgeOk_t (N := N) c1' c2' c3'))
        clear c3
        go_wp2
        exact ⟨⟨k + 1, by omega, by go_num, H.out, HB.out.alloc _, hb.alloc hb.size _⟩, by simp [intOf]; omega⟩
    · have H := Lib.hid (edgesB_all h1 h6 h12' (allTake_end HA.out (by omega)))
      go_wp2
      go_ret
      exact ⟨ret_boolE H.out.symm, hb⟩

end Go.Proofs.Ytdpojcgeblbfeaa

/- The program's range tests: isBeyond and areWithin. -/
namespace Go.Proofs.Ytdpojcgeblbfeaa
open Go.RowKit

def within (m z : Int) : Bool := inB z (-m) m
theorem within_f {m z : Int} (h : z < -m ∨ m < z) : within m z = false := inB_f h
theorem within_t {m z : Int} (h : -m ≤ z ∧ z ≤ m) : within m z = true := inB_t h
theorem all_miss {xs : List Int} {k : Nat} {z : Int} {p : Int → Bool} (he : xs[k]? = some z) (h : p z = false) : xs.all p = false := by
  rw [List.all_eq_false]
  exact ⟨z, List.mem_of_getElem? he, by simp [h]⟩
set_option maxHeartbeats 400000 in
theorem isBeyond_any (z m : Int) (w : World) (h0 : 0 ≤ m) (hm : m ≤ 1000000) : Calls Try.prog 194 #[.int .i64 z, .int .i64 m] w fun e w' => e = .returned (.bool (!within m z)) ∧ w = w' := by
  by_cases h1 : z < -m
  · rw [within_f (.inl h1)]
    have t1 : decide (z < -m) = true := decide_eq_true h1
    go_enter Try.func194, Try.ntmps194
    go_wp2
    go_ret
    exact ⟨rfl, rfl⟩
  · have t1 : decide (z < -m) = false := decide_eq_false h1
    by_cases h2 : m < z
    · rw [within_f (.inr h2)]
      have t2 : decide (m < z) = true := decide_eq_true h2
      clear h1
      go_enter Try.func194, Try.ntmps194
      go_wp2
      go_ret
      exact ⟨rfl, rfl⟩
    · rw [within_t ⟨by omega, by omega⟩]
      have t2 : decide (m < z) = false := decide_eq_false h2
      clear h1 h2
      go_enter Try.func194, Try.ntmps194
      go_wp2
      go_ret
      exact ⟨rfl, rfl⟩
set_option maxHeartbeats 400000 in
theorem areWithin_any (A : Option Addr) (c B : Nat) (xs : List Int) (m : Int) (w : World) (hn : xs.length ≤ 1048576) (h0 : 0 ≤ m) (hm : m ≤ 1000000) (hS : IntS w B A xs) :
    Calls Try.prog 158 #[.slice A xs.length c, .int .i64 m] w fun e w' => e = .returned (.bool (xs.all (within m))) ∧ w = w' := by
  have HS := Lib.hid hS
  clear hS
  go_enter Try.func158, Try.ntmps158
  go_wp2
  go_loop [9] (fun i => ∃ j : Nat, j ≤ xs.length ∧ i = .int .i64 j ∧ (xs.take j).all (within m) = true) (fun i => xs.length - (intOf i).toNat)
  case atStart => exact ⟨0, Nat.zero_le _, rfl, rfl⟩
  case round =>
    obtain ⟨j, hj, rfl, hall⟩ := hrel
    have HA := Lib.hid hall
    clear hall
    by_cases hlt : j < xs.length
    · obtain ⟨b1, o1, x, rfl, hb1, he, hc0⟩ := HS.out.at_ hlt
      have hj0 : (0 : Int) ≤ (j : Int) := Int.natCast_nonneg _
      have hj1 : (j : Int) < (xs.length : Int) := by omega
      cases hx : within m x with
      | true =>
        have H := Lib.hid (allTake_snoc HA.out he hx)
        have HB := isBeyond_any x m
        rw [hx] at HB
        have HC := fun w => Lib.hid (HB w h0 hm)
        clear he hx HB
        go_wp2_with fail
        refine (HC _).out.mono ?_
        rintro e w' ⟨rfl, rfl⟩
        go_wp2
        exact ⟨⟨j + 1, by omega, by go_num, H.out⟩, by simp [intOf]; omega⟩
      | false =>
        have H := Lib.hid (all_miss (p := within m) he hx)
        have HB := isBeyond_any x m
        rw [hx] at HB
        have HC := fun w => Lib.hid (HB w h0 hm)
        clear he hx HB
        go_wp2_with fail
        refine (HC _).out.mono ?_
        rintro e w' ⟨rfl, rfl⟩
        go_wp2
        go_ret
        exact ⟨ret_boolE H.out.symm, rfl⟩
    · have H := Lib.hid (allTake_end HA.out (by omega))
      go_wp2
      go_ret
      exact ⟨ret_boolE H.out.symm, rfl⟩
end Go.Proofs.Ytdpojcgeblbfeaa

/- A vertex of a graph: the plain test and the program's. -/
namespace Go.Proofs.Ytdpojcgeblbfeaa
open Go.RowKit

def vB (v N : Int) : Bool := decide (0 ≤ v) && decide (v < N)
theorem vB_t {v N : Int} (h : 0 ≤ v ∧ v < N) : vB v N = true := by simp [vB, h.1, h.2]
theorem vB_f {v N : Int} (h : v < 0 ∨ N ≤ v) : vB v N = false := by
  simp only [vB, Bool.and_eq_false_iff, decide_eq_false_iff_not]
  omega
theorem vB_iff {v N : Int} (h : vB v N = true) : 0 ≤ v ∧ v < N := by simpa [vB] using h
theorem inB_vB (v N : Int) : inB v 0 (N - 1) = vB v N := by
  rw [Bool.eq_iff_iff]
  simp only [inB, vB, Bool.and_eq_true, decide_eq_true_eq]
  omega
set_option maxHeartbeats 400000 in
theorem hasVertex_any (N : Int) (S : Value) (v : Int) (w : World) (hS : ∃ A n c, S = .slice A n c) : Calls Try.prog 60 #[.agg #[.int .i64 N, S], .int .i64 v] w fun e w' => e = .returned (.bool (vB v N)) ∧ Below w.heap.size w w' := by
  obtain ⟨A, n, c, rfl⟩ := hS
  by_cases h : 0 ≤ v
  · by_cases h2 : v < N
    · rw [vB_t ⟨h, h2⟩]
      go_enter Try.func60, Try.ntmps60
      go_wp2
      go_ret
      exact ⟨ret_boolE (by simp), (Below.refl _ _).alloc (Nat.le_refl _) _⟩
    · rw [vB_f (.inr (by omega))]
      have h3 : decide (v < N) = false := decide_eq_false h2
      clear h2
      go_enter Try.func60, Try.ntmps60
      go_wp2
      go_ret
      exact ⟨ret_boolE (by simp), (Below.refl _ _).alloc (Nat.le_refl _) _⟩
  · rw [vB_f (.inl (by omega))]
    have h3 : decide (0 ≤ v) = false := decide_eq_false h
    have h4 : v < 0 := by omega
    clear h
    go_enter Try.func60, Try.ntmps60
    go_wp2
    go_ret
    exact ⟨ret_boolE (by simp), (Below.refl _ _).alloc (Nat.le_refl _) _⟩
end Go.Proofs.Ytdpojcgeblbfeaa

/- A map from edges to ints that counts the edges of a list: what it reads as, and what 'm[e]++' does to it. -/
namespace Go.Proofs.Ytdpojcgeblbfeaa
open Go.RowKit Go.Maps Go.WideMaps Go.WideElems Go.ChangeMaps Go.MapKept
set_option maxRecDepth 100000

def WfE (e : Int × Int) : Prop := (Lit.int .i64 e.1).wf = true ∧ (Lit.int .i64 e.2).wf = true
def edgeV (e : Int × Int) : Value := .agg #[.int .i64 e.1, .int .i64 e.2]
def ek (e : Int × Int) : Lit := .string (keyBytes [.int .i64 e.1, .int .i64 e.2])

theorem edgeRow : 121 < Try.prog.types.size := of_decide_eq_true (by kernel_rfl)
theorem edgeWide : (match Try.prog.underlying 121 with | some (.array _ _) | some (.struct _) => true | _ => false) = true := by rw [Try.underlying121]
set_option maxRecDepth 100000 in
theorem edgeLaw : KeyLaw Try.prog 121 := deep_law_laid Try.laidOut (m := 2) (by omega) edgeRow (by kernel_rfl) edgeWide
theorem edgeKeyed : Keyed Try.prog 121 := Keyed.of_law edgeLaw
theorem cellsE : Try.prog.cellsOf 121 = 2 := by kernel_rfl
theorem cellsI : Try.prog.cellsOf 3 = 1 := by kernel_rfl
theorem keyTypeE : Try.prog.keyType 121 = true := by kernel_rfl
theorem zeroInt (w : World) : (zeroValue 3).run Try.prog w = .ok (.int .i64 0) w := by kernel_rfl
theorem twoMore : ∃ d, Try.prog.types.size + 1 = d + 2 := ⟨Try.prog.types.size - 1, by have : 0 < Try.prog.types.size := of_decide_eq_true (by kernel_rfl); omega⟩

theorem keyOf_edge {e : Int × Int} (h : WfE e) : keyOf Try.prog 121 (edgeV e) = some (ek e) := by
  have hf : (edgeV e).formed Try.prog 121 = true := by simp [edgeV, Value.formed, Try.underlying121, cellsE]
  obtain ⟨d, hd⟩ := twoMore
  unfold keyOf
  simp only [Try.underlying121, keyTypeE, hf, Bool.and_self, if_true, hd]
  have h1 : Try.prog.keyLits (d + 2) 121 (edgeV e).cells.toList = some [.int .i64 e.1, .int .i64 e.2] := by
    simp [Program.keyLits, Try.underlying121, Try.underlying3, edgeV, Value.cells, cellsE, cellsI, h.1, h.2]
  rw [h1]
  rfl
theorem keyLits_pair (d : Nat) (c0 c1 : Value) : Try.prog.keyLits (d + 2) 121 [c0, c1] = (Try.prog.keyLits (d + 1) 3 [c0]).bind fun a => (Try.prog.keyLits (d + 1) 3 [c1]).map fun b => a ++ b := by
  conv => lhs; unfold Program.keyLits
  simp only [Try.underlying121, cellsE]
  cases h0 : Try.prog.keyLits (d + 1) 3 [c0] <;> cases h1 : Try.prog.keyLits (d + 1) 3 [c1] <;> simp [cellsI, h0, h1]
theorem keyLits_one {d : Nat} {c : Value} {l : List Lit} (h : Try.prog.keyLits (d + 1) 3 [c] = some l) : ∃ n, c = .int .i64 n ∧ l = [.int .i64 n] ∧ (Lit.int .i64 n).wf = true := by
  obtain ⟨n, h1, h2⟩ := keyLits_int' Try.underlying3 h
  injection h1 with h1
  subst h1
  refine ⟨n, rfl, h2, ?_⟩
  by_cases hw : (Lit.int .i64 n).wf = true
  · exact hw
  · simp [Program.keyLits, Try.underlying3, hw] at h
theorem keyOf_edge_inv {v : Value} {l : Lit} (h : keyOf Try.prog 121 v = some l) : ∃ e, v = edgeV e ∧ l = ek e ∧ WfE e := by
  obtain ⟨d, hd⟩ := twoMore
  unfold keyOf at h
  simp only [Try.underlying121, keyTypeE, Bool.true_and, hd] at h
  by_cases hf : v.formed Try.prog 121 = true
  · rw [if_pos hf] at h
    cases hk : Try.prog.keyLits (d + 2) 121 v.cells.toList with
    | none => rw [hk] at h; cases h
    | some ls =>
      rw [hk] at h
      cases v with
      | agg cs =>
        simp [Value.formed, Try.underlying121, cellsE] at hf
        obtain ⟨l0⟩ := cs
        match l0, hf with
        | [c0, c1], _ =>
          have hk' : Try.prog.keyLits (d + 2) 121 [c0, c1] = some ls := hk
          rw [keyLits_pair] at hk'
          cases h0 : Try.prog.keyLits (d + 1) 3 [c0] with
          | none => rw [h0] at hk'; cases hk'
          | some a =>
            cases h1 : Try.prog.keyLits (d + 1) 3 [c1] with
            | none => rw [h0, h1] at hk'; cases hk'
            | some b =>
              rw [h0, h1] at hk'
              obtain ⟨m, rfl, rfl, wm⟩ := keyLits_one h0
              obtain ⟨n, rfl, rfl, wn⟩ := keyLits_one h1
              injection hk' with hk'
              subst hk'
              injection h with h
              exact ⟨(m, n), rfl, h.symm, wm, wn⟩
      | _ => simp [Value.formed, Try.underlying121] at hf
  · rw [if_neg hf] at h
    cases h
theorem ek_inj {e f : Int × Int} (he : WfE e) (hf : WfE f) (h : ek e = ek f) : e = f := by
  have h1 := keyOf_edge he
  have h2 := keyOf_edge hf
  rw [h] at h1
  have := edgeKeyed.inj h1 h2
  simp only [edgeV, Value.agg.injEq] at this
  have := congrArg Array.toList this
  simp at this
  exact Prod.ext this.1 this.2
theorem ek_key {e : Int × Int} (h : WfE e) : WideAt.IsKeyLit (ek e) := edgeKeyed.key (keyOf_edge h)

def Cnt (D : DataW Unit) (es : List (Int × Int)) : Prop :=
  IsMap D ∧ (∀ e, WfE e → D.atKey (ek e) (.lit (.int .i64 0)) = .lit (.int .i64 (es.count e))) ∧ ∀ e, WfE e → Maps.has D (ek e) = es.contains e
def CM (w : World) (B : Nat) (es : List (Int × Int)) : Prop := ∃ (n : Nat) (D : DataW Unit), w.ownsMap Try.prog 121 (plainElem Try.prog 3) B n D ∧ n ≤ es.length ∧ Cnt D es
theorem Cnt.nil : Cnt (.map []) [] := ⟨⟨[], rfl⟩, fun _ _ => rfl, fun _ _ => rfl⟩
theorem CM.made (w : World) : CM (w.alloc (.map #[] 0)) w.heap.size [] := ⟨0, _, World.ownsMap_made _ _ _ _, Nat.zero_le _, Cnt.nil⟩
theorem CM.kept {w w' : World} {B : Nat} {es : List (Int × Int)} {row : Option Nat} (h : CM w B es) (hg : w.grownBy w' row) (hne : some B ≠ row) : CM w' B es := by
  obtain ⟨n, D, h1, h2, h3⟩ := h
  exact ⟨n, D, h1.kept hg hne, h2, h3⟩
theorem CM.lt {w : World} {B : Nat} {es : List (Int × Int)} (h : CM w B es) : B < w.heap.size := by
  obtain ⟨n, D, h1, _, _⟩ := h
  exact h1.lt
theorem CM.alloc {w : World} {B : Nat} {es : List (Int × Int)} (h : CM w B es) (o : Obj) : CM (w.alloc o) B es := by
  obtain ⟨n, D, h1, h2, h3⟩ := h
  exact ⟨n, D, h1.alloc o, h2, h3⟩
theorem CM.drew {w : World} {B : Nat} {es : List (Int × Int)} (h : CM w B es) : CM w.drew B es := by
  obtain ⟨n, D, h1, h2, h3⟩ := h
  exact ⟨n, D, h1.drew, h2, h3⟩
theorem CM.below {w w' : World} {B : Nat} {es : List (Int × Int)} (h : CM w B es) (hb : Below w.heap.size w w') : CM w' B es :=
  h.kept (row := none) ⟨hb.os, hb.tape, hb.output, hb.size, fun i hi _ => hb.block i hi⟩ (by simp)

theorem Cnt.put {D : DataW Unit} {es : List (Int × Int)} {e : Int × Int} (h : Cnt D es) (he : WfE e) : Cnt (D.put (ek e) (.lit (.int .i64 (es.count e + 1)))) (es ++ [e]) := by
  obtain ⟨h1, h2, h3⟩ := h
  refine ⟨?_, ?_, ?_⟩
  · obtain ⟨l, rfl⟩ := h1
    exact ⟨_, rfl⟩
  · intro f hf
    by_cases hfe : f = e
    · subst hfe
      rw [atKey_put_same h1 (ek_key he), List.count_append, List.count_singleton_self]
      simp
    · rw [atKey_put_other (fun h => hfe (ek_inj hf he h)), h2 f hf, List.count_append]
      simp [Ne.symm hfe]
  · intro f hf
    by_cases hfe : f = e
    · subst hfe
      rw [has_put_same h1 (ek_key he)]
      simp
    · rw [has_put_other (fun h => hfe (ek_inj hf he h)), h3 f hf]
      simp [hfe]

theorem setBlock_grown {w : World} {b : Nat} {m : Array MapEntry} {c : Nat} (hb : w.heap[b]? = some (.map m c)) (o : Obj) : w.grownBy (setBlock w b o) (some b) :=
  ⟨rfl, rfl, rfl, by simp [setBlock], fun i _ hi => heap_setBlock_other hb o (fun e => hi (by rw [e]))⟩

theorem look_entry {w : World} {B : Nat} {ms : Array MapEntry} {clock : Nat} {R : Value → Option (DataW Unit × List MemPlace)} (hb : w.heap[B]? = some (.map ms clock)) (F : Fit Try.prog 121 R ms clock) {key : Value} {kl : Lit}
    (hkey : keyOf Try.prog 121 key = some kl) {r : Value} (hr : (Instr.lookup 164 (.map (some B)) key false).run Try.prog w = .ok r w) :
    ∃ (v : Value) (W2 : World), (Instr.mapEntry 164 (.map (some B)) key).run Try.prog w = .ok v W2 ∧ (Instr.lookup 164 (.map (some B)) key false).run Try.prog W2 = .ok r W2 := by
  have ht := Try.underlying164
  rcases edgeLaw.find w hkey ms.toList F.keys with ⟨h1, h2⟩ | ⟨j, e0, h1, h2, h3⟩
  · have hr2 : r = .int .i64 0 := by
      simp [Instr.lookup, run_underlying ht, MapKept.run_getObj_map hb, edgeLaw.check w _ hkey, h1, Result.andThen] at hr
      exact hr.symm
    subst hr2
    refine ⟨.tuple #[.int .i64 0, goInt clock], setBlock w B (.map (ms.push ⟨key, .int .i64 0, clock⟩) (clock + 1)), ?_, ?_⟩
    · simp [Instr.mapEntry, run_underlying ht, MapKept.run_getObj_map hb, edgeLaw.check w false hkey, h1, MapKept.run_setObj_map _ hb, Result.andThen, setBlock]
    · have hb2 := heap_setBlock_same hb (.map (ms.push ⟨key, .int .i64 0, clock⟩) (clock + 1))
      rcases edgeLaw.find (setBlock w B (.map (ms.push ⟨key, .int .i64 0, clock⟩) (clock + 1))) hkey (ms.push ⟨key, .int .i64 0, clock⟩).toList (fun x hx => by
        simp only [Array.toList_push, List.mem_append, List.mem_singleton] at hx
        rcases hx with hx | rfl
        · exact F.keys x hx
        · exact ⟨kl, hkey⟩) with ⟨_, g2⟩ | ⟨j, e0, g1, g2, g3⟩
      · exact absurd rfl (g2 ⟨key, .int .i64 0, clock⟩ (by simp))
      · have hv : e0.val = .int .i64 0 := by
          have hm := List.mem_of_getElem? g2
          simp only [Array.toList_push, List.mem_append, List.mem_singleton] at hm
          rcases hm with hm | rfl
          · exact absurd g3 (h2 e0 hm)
          · rfl
        simp [Instr.lookup, run_underlying ht, MapKept.run_getObj_map hb2, edgeLaw.check _ _ hkey, Result.andThen]
        simp at g1
        simp [g1, hv]
  · have hj : ms[j]? = some e0 := by simpa using h2
    have hsame : ms.modify j (fun e => { e with key := key }) = ms := by
      apply Array.ext'
      rw [Array.toList_modify, modify_eq_set _ _ _ _ h2]
      have : ({ e0 with key := key } : MapEntry) = e0 := by rw [← h3]
      rw [this]
      exact set_self _ _ _ h2
    have hw : setBlock w B (.map ms clock) = w := by
      have hlt : B < w.heap.size := by
        rcases Nat.lt_or_ge B w.heap.size with h | h
        · exact h
        · rw [Array.getElem?_eq_none h] at hb; cases hb
      have hq : w.heap.setIfInBounds B (.map ms clock) = w.heap := by
        apply Array.ext_getElem?
        intro i
        by_cases e : B = i
        · subst e
          rw [Array.getElem?_setIfInBounds_self_of_lt hlt, hb]
        · rw [Array.getElem?_setIfInBounds_ne e]
      unfold setBlock
      rw [hq]
    refine ⟨.tuple #[e0.val, goInt e0.born], w, ?_, hr⟩
    have hstay := edgeLaw.stays w hkey
    have : (Instr.mapEntry 164 (.map (some B)) key).run Try.prog w = .ok (.tuple #[e0.val, goInt e0.born]) (setBlock w B (.map (ms.modify j (fun e => { e with key := key })) clock)) := by
      simp [Instr.mapEntry, run_underlying ht, MapKept.run_getObj_map hb, edgeLaw.check w false hkey, h1, hj, h3, hstay, MapKept.run_setObj_map _ hb, Result.andThen, setBlock]
    rw [this, hsame, hw]

theorem cm_incr {w : World} {B : Nat} {es : List (Int × Int)} {e : Int × Int} (h : CM w B es) (he : WfE e) (hl : es.length < 1099511627776) : ∃ (v0 : Value) (st : Nat) (W2 W3 : World),
    (Instr.lookup 164 (.map (some B)) (edgeV e) false).run Try.prog w = .ok (.int .i64 (es.count e)) w ∧
    (Instr.mapEntry 164 (.map (some B)) (edgeV e)).run Try.prog w = .ok (.tuple #[v0, .int .i64 st]) W2 ∧
    (Instr.entryStore 164 (.map (some B)) (.int .i64 st) (.int .i64 ((es.count e : Int) + 1))).run Try.prog W2 = .ok () W3 ∧
    (Instr.lookup 164 (.map (some B)) (edgeV e) false).run Try.prog W2 = .ok (.int .i64 (es.count e)) W2 ∧
    w.grownBy W2 (some B) ∧ w.grownBy W3 (some B) ∧ CM W3 B (es ++ [e]) := by
  obtain ⟨n, D, hown, hn, hc⟩ := h
  have hkey := keyOf_edge he
  obtain ⟨c, hlook, hat, _⟩ := hown.lookup_int edgeKeyed Try.underlying164 Try.underlying3 (zeroInt w) hkey
  have hcc : c = (es.count e : Int) := by
    have := hc.2.1 e he
    rw [hat] at this
    injection this with this
    injection this
  subst hcc
  have hle : es.count e ≤ es.length := List.count_le_length
  have hput := hown.update edgeKeyed Try.underlying164 (by unfold maxLen; omega) hkey (plainElem_int Try.underlying3 (a := (es.count e : Int) + 1) (WalkArith.wf_i64 (by omega)))
  obtain ⟨W3, hupd, hown3, hg3⟩ := hput
  obtain ⟨ms, clock, hb, F, hs, hD⟩ := hown
  obtain ⟨v0, st, es1, clock1, hent, hv0, hst⟩ := entry_then_store edgeLaw Try.underlying164 (fun u => zeroInt u) hb F hkey
  obtain ⟨es', clock', hs1, hs2⟩ := hst (setBlock w B (.map es1 clock1)) (.int .i64 ((es.count e : Int) + 1)) (heap_setBlock_same hb _)
  rw [hs2] at hupd
  injection hupd with _ hw3
  have hset : setBlock (setBlock w B (.map es1 clock1)) B (.map es' clock') = setBlock w B (.map es' clock') := by
    simp [setBlock]
  rw [hset] at hs1
  obtain ⟨v9, W9, hent9, hlook9⟩ := look_entry hb F hkey hlook
  rw [hent] at hent9
  injection hent9 with _ hw9
  refine ⟨v0, st, _, W3, hlook, hent, by rw [← hw3]; exact hs1, by rw [hw9]; exact hlook9, setBlock_grown hb _, hg3, n + 1, _, hown3, by simp; omega, hc.put he⟩
end Go.Proofs.Ytdpojcgeblbfeaa

/- Ranging over a map that counts edges: the laws at the operations, in words on edges. -/
namespace Go.Proofs.Ytdpojcgeblbfeaa
open Go.RowKit Go.Maps Go.WideMaps Go.WideElems Go.ChangeMaps
set_option maxRecDepth 100000

def RG (w : World) (B r : Nat) (es : List (Int × Int)) (left : Int × Int → Bool) (cnt : Nat) : Prop :=
  ∃ (n : Nat) (D : DataW Unit) (lf : Lit → Bool), w.ranges Try.prog 121 (plainElem Try.prog 3) B r n D lf cnt ∧ n ≤ es.length ∧ Cnt D es ∧ ∀ e, WfE e → lf (ek e) = left e
section
variable {w w' : World} {B r cnt : Nat} {es : List (Int × Int)} {left : Int × Int → Bool}
theorem RG.left_eq (h : RG w B r es left cnt) : w.rangeLeft B r = cnt := by
  obtain ⟨n, D, lf, h1, h2, h3, _⟩ := h
  exact h1.left_eq
theorem RG.lt (h : RG w B r es left cnt) : r < w.heap.size := by
  obtain ⟨n, D, lf, h1, h2, h3, _⟩ := h
  exact h1.lt
theorem RG.kept {row : Option Nat} (h : RG w B r es left cnt) (hg : w.grownBy w' row) (hb : some B ≠ row) (hr : some r ≠ row) : RG w' B r es left cnt := by
  obtain ⟨n, D, lf, h1, h2, h3, h4⟩ := h
  exact ⟨n, D, lf, h1.kept hg hb hr, h2, h3, h4⟩
theorem RG.alloc (h : RG w B r es left cnt) (o : Obj) : RG (w.alloc o) B r es left cnt := by
  obtain ⟨n, D, lf, h1, h2, h3, h4⟩ := h
  exact ⟨n, D, lf, h1.alloc o, h2, h3, h4⟩
theorem RG.below (h : RG w B r es left cnt) (hb : Below w.heap.size w w') : RG w' B r es left cnt :=
  h.kept (row := none) ⟨hb.os, hb.tape, hb.output, hb.size, fun i hi _ => hb.block i hi⟩ (by simp) (by simp)
end
theorem below_none {w w' : World} (h : w.grownBy w' none) : Below w.heap.size w w' := ⟨h.os, h.tape, h.output, h.size, fun i hi => h.block i hi (by simp)⟩
theorem ek_same {e f : Int × Int} (he : WfE e) (hf : WfE f) : (ek f).sameKey (ek e) = (f == e) := by
  by_cases h : f = e
  · subst h
    rw [WideAt.sameKey_self (ek_key hf)]
    simp
  · rw [sameKey_ne (fun h2 => h (ek_inj hf he h2))]
    simp [h]

section
variable (w : World) {ops : Array Oper} {rest : List Oper} {o : Oper} {a : Act} {Q : Exit → Act → World → Prop}
end
end Go.Proofs.Ytdpojcgeblbfeaa

/- countEdges: the map that it makes counts the edges. -/
namespace Go.Proofs.Ytdpojcgeblbfeaa
open Go.RowKit Go.Maps

def MadeCount (w : World) (es : List (Int × Int)) (e : Ending) (w' : World) : Prop :=
  e = .returned (.map (some (w.heap.size + 1))) ∧ CM w' (w.heap.size + 1) es ∧ Below w.heap.size w w'

theorem below_grown_map {a w w' : World} {B : Nat} (h : Below a.heap.size a w) (hg : w.grownBy w' (some B)) (hB : a.heap.size ≤ B) : Below a.heap.size a w' :=
  h.grown hg h.size (fun k hk => by cases hk; exact hB)

set_option maxHeartbeats 1000000 in
theorem countEdges_any (N : Int) (A : Option Addr) (c : Nat) (es : List (Int × Int)) (w : World) (hn : es.length ≤ 1048576) (hw : ∀ e ∈ es, WfE e) (hE : EdgeS w w.heap.size A es) :
    Calls Try.prog 174 #[.agg #[.int .i64 N, .slice A es.length c]] w (MadeCount w es) := by
  have HE := Lib.hid hE
  have HW := Lib.hid hw
  clear hE hw
  have hmm := @run_makeMap Try.prog
  go_enter Try.func174, Try.ntmps174
  go_wp2
  go_loopw [10] (fun i wr => ∃ k : Nat, k ≤ es.length ∧ i = .int .i64 k ∧ CM wr (w.heap.size + 1) (es.take k) ∧ Below w.heap.size w wr) (fun i _ => es.length - (intOf i).toNat)
  case atStart => 
    refine ⟨0, Nat.zero_le _, rfl, ?_, ((Below.refl _ _).alloc (Nat.le_refl _) _).alloc (by simp) _⟩
    have := CM.made (w.alloc (.cells #[.int .i64 N, .slice A es.length c] 25))
    simpa using this
  case round =>
    obtain ⟨k, hk, rfl, hcm, hb⟩ := hrel
    have HC := Lib.hid hcm
    clear hcm hmm
    by_cases hlt : k < es.length
    · obtain ⟨b1, o1, e, rfl, hb1, he, hc0, hc1⟩ := (HE.out.below hb).at_ hlt
      have hi0 : (0 : Int) ≤ (k : Int) := Int.natCast_nonneg _
      have hi1 : (k : Int) < (es.length : Int) := by omega
      have hwe := Lib.hid (HW.out e (List.mem_of_getElem? he))
      have HX := Lib.hid he
      clear he
      have hz : ((es.take k).count e : Int) ≤ 1048576 := by
        have h1 : (es.take k).count e ≤ (es.take k).length := List.count_le_length
        simp only [List.length_take] at h1
        omega
      obtain ⟨v0, st, W2, W3, q1, q2, q3, q4, hg2, hg3, hcm3⟩ := cm_incr (w := (wr.alloc (.cells #[.int .i64 e.1, .int .i64 e.2] 121)).drew) ((HC.out.alloc _).drew) hwe.out (by simp only [List.length_take]; omega)
      unfold edgeV at q1 q2 q4
      have HC3 := Lib.hid hcm3
      clear hcm3
      go_wp2
      go_region
      go_wp2
      refine ⟨⟨k + 1, by omega, by go_num, ?_, below_grown_map ((hb.alloc hb.size _).drew) hg3 (by omega)⟩, by simp [intOf]; omega⟩
      rw [List.take_add_one, HX.out]
      exact HC3.out
    · have HC3 := HC.out
      rw [List.take_of_length_le (by omega)] at HC3
      have HC4 := Lib.hid HC3
      clear HC3
      go_wp2
      go_ret
      exact ⟨rfl, HC4.out, hb⟩
end Go.Proofs.Ytdpojcgeblbfeaa

/- Multiplicity: the specification's count by a loop and the program's count by a map are one plain number. -/
namespace Go.Proofs.Ytdpojcgeblbfeaa
open Go.RowKit Go.Maps

set_option maxHeartbeats 400000 in
theorem l02Vert_any (N : Int) (S : Value) (v : Int) (w : World) (hS : ∃ A n c, S = .slice A n c) : Calls Try.prog 171 #[.agg #[.int .i64 N, S], .int .i64 v] w fun e w' => e = .returned (.bool (vB v N)) ∧ Below w.heap.size w w' := by
  obtain ⟨A, n, c, rfl⟩ := hS
  by_cases h : 0 ≤ v
  · by_cases h2 : v < N
    · rw [vB_t ⟨h, h2⟩]
      go_enter Try.func171, Try.ntmps171
      go_wp2
      go_ret
      exact ⟨ret_boolE (by simp), (Below.refl _ _).alloc (Nat.le_refl _) _⟩
    · rw [vB_f (.inr (by omega))]
      have h3 : decide (v < N) = false := decide_eq_false h2
      clear h2
      go_enter Try.func171, Try.ntmps171
      go_wp2
      go_ret
      exact ⟨ret_boolE (by simp), (Below.refl _ _).alloc (Nat.le_refl _) _⟩
  · rw [vB_f (.inl (by omega))]
    have h3 : decide (0 ≤ v) = false := decide_eq_false h
    have h4 : v < 0 := by omega
    clear h
    go_enter Try.func171, Try.ntmps171
    go_wp2
    go_ret
    exact ⟨ret_boolE (by simp), (Below.refl _ _).alloc (Nat.le_refl _) _⟩

def multB (N : Int) (es : List (Int × Int)) (a b : Int) : Int := if 0 ≤ a ∧ a < N ∧ 0 ≤ b ∧ b < N ∧ a ≠ b then es.count (min a b, max a b) else 0
theorem multB_no {N : Int} {es : List (Int × Int)} {a b : Int} (h : vB a N = false ∨ vB b N = false ∨ a = b) : multB N es a b = 0 := by
  rw [multB, if_neg]
  rintro ⟨h1, h2, h3, h4, h5⟩
  rcases h with h | h | h
  · rw [vB_t ⟨h1, h2⟩] at h; cases h
  · rw [vB_t ⟨h3, h4⟩] at h; cases h
  · exact h5 h
theorem multB_yes {N : Int} {es : List (Int × Int)} {a b : Int} (ha : vB a N = true) (hb : vB b N = true) (h : a ≠ b) : multB N es a b = es.count (min a b, max a b) := by
  have h1 := vB_iff ha
  have h2 := vB_iff hb
  rw [multB, if_pos ⟨h1.1, h1.2, h2.1, h2.2, h⟩]

theorem count_snoc {es : List (Int × Int)} {k : Nat} {e f : Int × Int} (he : es[k]? = some e) : (es.take (k + 1)).count f = (es.take k).count f + if e = f then 1 else 0 := by
  rw [List.take_add_one, he, List.count_append]
  simp [List.count_cons]
theorem count_le {es : List (Int × Int)} (k : Nat) (f : Int × Int) : (es.take k).count f ≤ k := by
  have h1 : (es.take k).count f ≤ (es.take k).length := List.count_le_length
  simp only [List.length_take] at h1
  omega

set_option maxHeartbeats 1000000 in
theorem specMult_lt (N : Int) (A : Option Addr) (c : Nat) (es : List (Int × Int)) (a b : Int) (w : World) (hn : es.length ≤ 1048576) (ha : vB a N = true) (hb : vB b N = true) (hab : a < b) (hE : EdgeS w w.heap.size A es) :
    Calls Try.prog 156 #[.agg #[.int .i64 N, .slice A es.length c], .int .i64 a, .int .i64 b] w fun e w' => e = .returned (.int .i64 (es.count (a, b))) ∧ Below w.heap.size w w' := by
  have HE := Lib.hid hE
  clear hE
  have hne : (a == b) = false := by rw [beq_eq_false_iff_ne]; omega
  go_enter Try.func156, Try.ntmps156
  go_wp2_with fail
  refine (l02Vert_any _ _ _ _ ⟨_, _, _, rfl⟩).mono ?_
  rintro e w1 ⟨rfl, hb1⟩
  have hk1 := (Blk.new w 25 #[.int .i64 N, .slice A es.length c]).below hb1 (by simp)
  have B1 := ((Below.refl w.heap.size w).alloc (Nat.le_refl _) (.cells #[.int .i64 N, .slice A es.length c] 25)).trans (hb1.mono (by simp))
  have c0 : w1.cell? ⟨w.heap.size, 0, none⟩ = some (.int .i64 N) := by rw [hk1.cell]; rfl
  have c1 : w1.cell? ⟨w.heap.size, 1, none⟩ = some (.slice A es.length c) := by rw [hk1.cell]; rfl
  clear hb1
  go_wp2_with fail
  refine (l02Vert_any _ _ _ _ ⟨_, _, _, rfl⟩).mono ?_
  rintro e w2 ⟨rfl, hb2⟩
  have hk2 := hk1.below hb2 hk1.lt
  have B2 := B1.trans (hb2.mono B1.size)
  clear c0 c1 hb2 hk1 B1
  have c0 : w2.cell? ⟨w.heap.size, 0, none⟩ = some (.int .i64 N) := by rw [hk2.cell]; rfl
  have c1 : w2.cell? ⟨w.heap.size, 1, none⟩ = some (.slice A es.length c) := by rw [hk2.cell]; rfl
  clear hk2
  go_wp2
  go_loopw [7, 28] (fun n i wr => ∃ k : Nat, k ≤ es.length ∧ i = .int .i64 k ∧ n = .int .i64 ((es.take k).count (a, b)) ∧ Below w.heap.size w wr) (fun _ i _ => es.length - (intOf i).toNat)
  case atStart => exact ⟨0, Nat.zero_le _, rfl, rfl, B2⟩
  case round =>
    obtain ⟨k, hk, rfl, rfl, hbw⟩ := hrel
    clear c0 c1
    by_cases hlt : k < es.length
    · obtain ⟨b1, o1, e, rfl, hb1, he, hc0, hc1⟩ := (HE.out.below hbw).at_ hlt
      have hi0 : (0 : Int) ≤ (k : Int) := Int.natCast_nonneg _
      have hi1 : (k : Int) < (es.length : Int) := by omega
      have HS := Lib.hid (count_snoc (f := (a, b)) he)
      have hcl := count_le (es := es) k (a, b)
      have hz0 : (0 : Int) ≤ ((es.take k).count (a, b) : Int) := Int.natCast_nonneg _
      clear he
      by_cases h1 : e.1 = a
      · have t1 : (e.1 == a) = true := by rw [beq_iff_eq]; exact h1
        have HH1 := Lib.hid h1
        clear h1
        by_cases h2 : e.2 = b
        · have t2 : (e.2 == b) = true := by rw [beq_iff_eq]; exact h2
          have HQ := HS.out
          rw [if_pos (Prod.ext HH1.out h2)] at HQ
          have HQ2 := Lib.hid HQ
          clear HQ h2
          go_wp2
          exact ⟨⟨k + 1, by omega, by go_num, by rw [HQ2.out]; go_num, hbw.alloc hbw.size _⟩, by simp [intOf]; omega⟩
        · have t2 : (e.2 == b) = false := by rw [beq_eq_false_iff_ne]; exact h2
          have HQ := HS.out
          rw [if_neg (fun he => h2 (by rw [he]))] at HQ
          have HQ2 := Lib.hid HQ
          clear HQ h2
          go_wp2
          exact ⟨⟨k + 1, by omega, by go_num, by rw [HQ2.out]; rfl, hbw.alloc hbw.size _⟩, by simp [intOf]; omega⟩
      · have t1 : (e.1 == a) = false := by rw [beq_eq_false_iff_ne]; exact h1
        have HQ := HS.out
        rw [if_neg (fun he => h1 (by rw [he]))] at HQ
        have HQ2 := Lib.hid HQ
        clear HQ h1
        go_wp2
        exact ⟨⟨k + 1, by omega, by go_num, by rw [HQ2.out]; rfl, hbw.alloc hbw.size _⟩, by simp [intOf]; omega⟩
    · have HA := Lib.hid (show (es.take k).count (a, b) = es.count (a, b) by rw [List.take_of_length_le (by omega)])
      go_wp2
      go_ret
      exact ⟨ret_intE (congrArg Int.ofNat HA.out), hbw⟩

set_option maxHeartbeats 1000000 in
theorem specMult_gt (N : Int) (A : Option Addr) (c : Nat) (es : List (Int × Int)) (a b : Int) (w : World) (hn : es.length ≤ 1048576) (ha : vB a N = true) (hb : vB b N = true) (hab : b < a) (hE : EdgeS w w.heap.size A es) :
    Calls Try.prog 156 #[.agg #[.int .i64 N, .slice A es.length c], .int .i64 a, .int .i64 b] w fun e w' => e = .returned (.int .i64 (es.count (b, a))) ∧ Below w.heap.size w w' := by
  have HE := Lib.hid hE
  clear hE
  have hne : (a == b) = false := by rw [beq_eq_false_iff_ne]; omega
  go_enter Try.func156, Try.ntmps156
  go_wp2_with fail
  refine (l02Vert_any _ _ _ _ ⟨_, _, _, rfl⟩).mono ?_
  rintro e w1 ⟨rfl, hb1⟩
  have hk1 := (Blk.new w 25 #[.int .i64 N, .slice A es.length c]).below hb1 (by simp)
  have B1 := ((Below.refl w.heap.size w).alloc (Nat.le_refl _) (.cells #[.int .i64 N, .slice A es.length c] 25)).trans (hb1.mono (by simp))
  have c0 : w1.cell? ⟨w.heap.size, 0, none⟩ = some (.int .i64 N) := by rw [hk1.cell]; rfl
  have c1 : w1.cell? ⟨w.heap.size, 1, none⟩ = some (.slice A es.length c) := by rw [hk1.cell]; rfl
  clear hb1
  go_wp2_with fail
  refine (l02Vert_any _ _ _ _ ⟨_, _, _, rfl⟩).mono ?_
  rintro e w2 ⟨rfl, hb2⟩
  have hk2 := hk1.below hb2 hk1.lt
  have B2 := B1.trans (hb2.mono B1.size)
  clear c0 c1 hb2 hk1 B1
  have c0 : w2.cell? ⟨w.heap.size, 0, none⟩ = some (.int .i64 N) := by rw [hk2.cell]; rfl
  have c1 : w2.cell? ⟨w.heap.size, 1, none⟩ = some (.slice A es.length c) := by rw [hk2.cell]; rfl
  clear hk2
  go_wp2
  go_loopw [7, 28] (fun n i wr => ∃ k : Nat, k ≤ es.length ∧ i = .int .i64 k ∧ n = .int .i64 ((es.take k).count (b, a)) ∧ Below w.heap.size w wr) (fun _ i _ => es.length - (intOf i).toNat)
  case atStart => exact ⟨0, Nat.zero_le _, rfl, rfl, B2⟩
  case round =>
    obtain ⟨k, hk, rfl, rfl, hbw⟩ := hrel
    clear c0 c1
    by_cases hlt : k < es.length
    · obtain ⟨b1, o1, e, rfl, hb1, he, hc0, hc1⟩ := (HE.out.below hbw).at_ hlt
      have hi0 : (0 : Int) ≤ (k : Int) := Int.natCast_nonneg _
      have hi1 : (k : Int) < (es.length : Int) := by omega
      have HS := Lib.hid (count_snoc (f := (b, a)) he)
      have hcl := count_le (es := es) k (b, a)
      have hz0 : (0 : Int) ≤ ((es.take k).count (b, a) : Int) := Int.natCast_nonneg _
      clear he
      by_cases h1 : e.1 = b
      · have t1 : (e.1 == b) = true := by rw [beq_iff_eq]; exact h1
        have HH1 := Lib.hid h1
        clear h1
        by_cases h2 : e.2 = a
        · have t2 : (e.2 == a) = true := by rw [beq_iff_eq]; exact h2
          have HQ := HS.out
          rw [if_pos (Prod.ext HH1.out h2)] at HQ
          have HQ2 := Lib.hid HQ
          clear HQ h2
          go_wp2
          exact ⟨⟨k + 1, by omega, by go_num, by rw [HQ2.out]; go_num, hbw.alloc hbw.size _⟩, by simp [intOf]; omega⟩
        · have t2 : (e.2 == a) = false := by rw [beq_eq_false_iff_ne]; exact h2
          have HQ := HS.out
          rw [if_neg (fun he => h2 (by rw [he]))] at HQ
          have HQ2 := Lib.hid HQ
          clear HQ h2
          go_wp2
          exact ⟨⟨k + 1, by omega, by go_num, by rw [HQ2.out]; rfl, hbw.alloc hbw.size _⟩, by simp [intOf]; omega⟩
      · have t1 : (e.1 == b) = false := by rw [beq_eq_false_iff_ne]; exact h1
        have HQ := HS.out
        rw [if_neg (fun he => h1 (by rw [he]))] at HQ
        have HQ2 := Lib.hid HQ
        clear HQ h1
        go_wp2
        exact ⟨⟨k + 1, by omega, by go_num, by rw [HQ2.out]; rfl, hbw.alloc hbw.size _⟩, by simp [intOf]; omega⟩
    · have HA := Lib.hid (show (es.take k).count (b, a) = es.count (b, a) by rw [List.take_of_length_le (by omega)])
      go_wp2
      go_ret
      exact ⟨ret_intE (congrArg Int.ofNat HA.out), hbw⟩

set_option maxHeartbeats 1000000 in
theorem specMult_no (N : Int) (A : Option Addr) (c : Nat) (es : List (Int × Int)) (a b : Int) (w : World) (h : vB a N = false ∨ (vB a N = true ∧ vB b N = false) ∨ (vB a N = true ∧ vB b N = true ∧ a = b)) :
    Calls Try.prog 156 #[.agg #[.int .i64 N, .slice A es.length c], .int .i64 a, .int .i64 b] w fun e w' => e = .returned (.int .i64 0) ∧ Below w.heap.size w w' := by
  have B0 := (Below.refl w.heap.size w).alloc (Nat.le_refl _) (.cells #[.int .i64 N, .slice A es.length c] 25)
  rcases h with ha | ⟨ha, hb⟩ | ⟨ha, hb, hab⟩
  · go_enter Try.func156, Try.ntmps156
    go_wp2_with fail
    refine (l02Vert_any _ _ _ _ ⟨_, _, _, rfl⟩).mono ?_
    rintro e w1 ⟨rfl, hb1⟩
    go_wp2
    go_ret
    exact ⟨rfl, B0.trans (hb1.mono B0.size)⟩
  · go_enter Try.func156, Try.ntmps156
    go_wp2_with fail
    refine (l02Vert_any _ _ _ _ ⟨_, _, _, rfl⟩).mono ?_
    rintro e w1 ⟨rfl, hb1⟩
    have hk1 := (Blk.new w 25 #[.int .i64 N, .slice A es.length c]).below hb1 (by simp)
    have c0 : w1.cell? ⟨w.heap.size, 0, none⟩ = some (.int .i64 N) := by rw [hk1.cell]; rfl
    have c1 : w1.cell? ⟨w.heap.size, 1, none⟩ = some (.slice A es.length c) := by rw [hk1.cell]; rfl
    have B1 := B0.trans (hb1.mono B0.size)
    clear hb1
    go_wp2_with fail
    refine (l02Vert_any _ _ _ _ ⟨_, _, _, rfl⟩).mono ?_
    rintro e w2 ⟨rfl, hb2⟩
    have B2 := B1.trans (hb2.mono B1.size)
    go_wp2
    go_ret
    exact ⟨rfl, B2⟩
  · have hne : (a == b) = true := by rw [beq_iff_eq]; exact hab
    clear hab
    go_enter Try.func156, Try.ntmps156
    go_wp2_with fail
    refine (l02Vert_any _ _ _ _ ⟨_, _, _, rfl⟩).mono ?_
    rintro e w1 ⟨rfl, hb1⟩
    have hk1 := (Blk.new w 25 #[.int .i64 N, .slice A es.length c]).below hb1 (by simp)
    have c0 : w1.cell? ⟨w.heap.size, 0, none⟩ = some (.int .i64 N) := by rw [hk1.cell]; rfl
    have c1 : w1.cell? ⟨w.heap.size, 1, none⟩ = some (.slice A es.length c) := by rw [hk1.cell]; rfl
    have B1 := B0.trans (hb1.mono B0.size)
    clear hb1
    go_wp2_with fail
    refine (l02Vert_any _ _ _ _ ⟨_, _, _, rfl⟩).mono ?_
    rintro e w2 ⟨rfl, hb2⟩
    have B2 := B1.trans (hb2.mono B1.size)
    go_wp2
    go_ret
    exact ⟨rfl, B2⟩
theorem specMultU (N : Int) (A : Option Addr) (c : Nat) (es : List (Int × Int)) (a b : Int) (w : World) (hn : es.length ≤ 1048576) (hE : EdgeS w w.heap.size A es) :
    Calls Try.prog 156 #[.agg #[.int .i64 N, .slice A es.length c], .int .i64 a, .int .i64 b] w fun e w' => e = .returned (.int .i64 (multB N es a b)) ∧ Below w.heap.size w w' := by
  cases ha : vB a N with
  | false => rw [multB_no (.inl ha)]; exact specMult_no N A c es a b w (.inl ha)
  | true =>
    cases hb : vB b N with
    | false => rw [multB_no (.inr (.inl hb))]; exact specMult_no N A c es a b w (.inr (.inl ⟨ha, hb⟩))
    | true =>
      by_cases hab : a = b
      · rw [multB_no (.inr (.inr hab))]; exact specMult_no N A c es a b w (.inr (.inr ⟨ha, hb, hab⟩))
      · rw [multB_yes ha hb hab]
        by_cases h : a < b
        · rw [show min a b = a by omega, show max a b = b by omega]; exact specMult_lt N A c es a b w hn ha hb h hE
        · rw [show min a b = b by omega, show max a b = a by omega]; exact specMult_gt N A c es a b w hn ha hb (by omega) hE
end Go.Proofs.Ytdpojcgeblbfeaa
