/- Contracts of the laws' helpers on edges and graphs: sizes, copies, comparisons. -/
import Derived.Test.YtbmihbbpdmpmpaaRows
import Derived.WalkKit
import Derived.WalkSpells
import Derived.WalkLawsBesides
import Derived.Lib.Hide
import Derived.Outline
import Derived.Below
import Derived.Deep.Draws
import Derived.Deep.RegionHeld3
import Derived.Deep.DeepFit
import Derived.ProofKit
namespace Go.Proofs.Ytbmihbbpdmpmpaa
open Go.RowKit

theorem below_drewN {B : Nat} {a w : World} (h : Below B a w) (n : Nat) : Below B a (w.drewN n) := ⟨h.os, h.tape, h.output, h.size, h.block⟩
theorem bcell {W w1 : World} (hb : Below W.heap.size W w1) : (∀ b o, b < W.heap.size → w1.cell? ⟨b, o, none⟩ = W.cell? ⟨b, o, none⟩) ∧ (∀ b o, b < W.heap.size → w1.frozen? ⟨b, o, none⟩ = W.frozen? ⟨b, o, none⟩) :=
  ⟨fun b o h => hb.cell (p := ⟨b, o, none⟩) h, fun b o h => hb.frozen (p := ⟨b, o, none⟩) h⟩
theorem ret_boolE {a b : Bool} (h : a = b) : Ending.returned (.bool a) = .returned (.bool b) := by rw [h]
theorem ret_intE {k : IntKind} {a b : Int} (h : a = b) : Ending.returned (.int k a) = .returned (.int k b) := by rw [h]

set_option maxHeartbeats 400000 in
theorem toEdge_any (a b : Int) (w : World) :
    Calls Try.prog 89 #[.agg #[.int .i64 a, .int .i64 b]] w fun e w' => e = .returned (.agg #[.int .i64 a, .int .i64 b]) ∧ Below w.heap.size w w' := by
  go_enter Try.func89, Try.ntmps89
  go_wp2
  exact bodyPost_ret (v := .agg #[.int .i64 a, .int .i64 b]) (by simp [results, Try.results89, go_sem]) rfl ⟨rfl, (((Below.refl _ _).alloc (Nat.le_refl _) _).alloc (by simp) _).alloc (by simp; omega) _⟩

set_option maxHeartbeats 400000 in
theorem szEdgeS_any (A : Option Addr) (n c : Nat) (left : Int) (w : World) (hn : n ≤ 9223372036854775807) (h0 : 0 ≤ left) (h1 : left ≤ 1048576) :
    Calls Try.prog 48 #[.slice A n c, .int .i64 left] w fun e w' => e = .returned (.int .i64 (if left < n then -1 else left - n)) ∧ w = w' := by
  by_cases h : left < n
  · rw [if_pos h]
    go_enter Try.func48, Try.ntmps48
    go_wp2
    go_ret
    exact ⟨rfl, rfl⟩
  · rw [if_neg h]
    go_enter Try.func48, Try.ntmps48
    go_wp2
    go_ret
    exact ⟨rfl, rfl⟩

/-- two edges are equal -/
def eqE (a b c d : Int) : Bool := decide (a = c) && decide (b = d)
set_option maxHeartbeats 400000 in
theorem eqEdge_any (a b c d : Int) (w : World) :
    Calls Try.prog 90 #[.agg #[.int .i64 a, .int .i64 b], .agg #[.int .i64 c, .int .i64 d]] w fun e w' => e = .returned (.bool (eqE a b c d)) ∧ Below w.heap.size w w' := by
  by_cases h : a = c
  · by_cases h2 : b = d
    · have H : eqE a b c d = true := by simp [eqE, h, h2]
      rw [H]
      have e1 : (a != c) = false := by simp [h]
      have e2 : (b != d) = false := by simp [h2]
      clear h h2 H
      go_enter Try.func90, Try.ntmps90
      go_wp2
      go_ret
      exact ⟨rfl, ((Below.refl _ _).alloc (Nat.le_refl _) _).alloc (by simp) _⟩
    · have H : eqE a b c d = false := by simp [eqE, h2]
      rw [H]
      have e1 : (a != c) = false := by simp [h]
      have e2 : (b != d) = true := by simp [h2]
      clear h h2 H
      go_enter Try.func90, Try.ntmps90
      go_wp2
      go_ret
      exact ⟨rfl, ((Below.refl _ _).alloc (Nat.le_refl _) _).alloc (by simp) _⟩
  · have H : eqE a b c d = false := by simp [eqE, h]
    rw [H]
    have e1 : (a != c) = true := by simp [h]
    clear h H
    go_enter Try.func90, Try.ntmps90
    go_wp2
    go_ret
    exact ⟨rfl, ((Below.refl _ _).alloc (Nat.le_refl _) _).alloc (by simp) _⟩

/-- a slice of edges reads as a list, its cells below block B; a nil slice reads as no edge -/
def EdgeS (w : World) (B : Nat) (A : Option Addr) (es : List (Int × Int)) : Prop :=
  0 < es.length → ∃ b off : Nat, A = some ⟨b, off, none⟩ ∧ b < B ∧ ∀ i e, es[i]? = some e → w.cell? ⟨b, off + i * 2, none⟩ = some (.int .i64 e.1) ∧ w.cell? ⟨b, off + i * 2 + 1, none⟩ = some (.int .i64 e.2)
theorem EdgeS.keep {w w' : World} {B B' : Nat} {A : Option Addr} {es : List (Int × Int)} (h : EdgeS w B A es) (hk : ∀ p : Addr, p.block < B → w'.cell? p = w.cell? p) (hB : B ≤ B') : EdgeS w' B' A es :=
  fun hn => by
    obtain ⟨b, off, e, hb, hc⟩ := h hn
    exact ⟨b, off, e, by omega, fun i x hx => ⟨(hk _ hb).trans (hc i x hx).1, (hk _ hb).trans (hc i x hx).2⟩⟩
theorem EdgeS.below {w w' : World} {B : Nat} {A : Option Addr} {es : List (Int × Int)} (h : EdgeS w B A es) (hb : Below B w w') : EdgeS w' B A es := h.keep (fun _ hp => hb.cell hp) (Nat.le_refl _)
theorem EdgeS.up {w w' : World} {B B' : Nat} {A : Option Addr} {es : List (Int × Int)} (h : EdgeS w B A es) (hb : Below B w w') (hB : B ≤ B') : EdgeS w' B' A es := h.keep (fun _ hp => hb.cell hp) hB
theorem EdgeS.at_ {w : World} {B : Nat} {A : Option Addr} {es : List (Int × Int)} (h : EdgeS w B A es) {k : Nat} (hk : k < es.length) :
    ∃ (b off : Nat) (e : Int × Int), A = some ⟨b, off, none⟩ ∧ b < B ∧ es[k]? = some e ∧ w.cell? ⟨b, off + k * 2, none⟩ = some (.int .i64 e.1) ∧ w.cell? ⟨b, off + k * 2 + 1, none⟩ = some (.int .i64 e.2) := by
  obtain ⟨b, off, e, hb, hc⟩ := h (by omega)
  exact ⟨b, off, es[k], e, hb, List.getElem?_eq_getElem hk, hc k _ (List.getElem?_eq_getElem hk)⟩

theorem keep4 {w W w2 : World} {p q r s : Addr} {a b c d : Value} (hS : W.cell? p = some a ∧ W.cell? q = some b ∧ W.cell? r = some c ∧ W.cell? s = some d ∧ Below w.heap.size w W) (hb : Below W.heap.size W w2)
    (hp : p.block < w.heap.size) (hq : q.block < w.heap.size) (hr : r.block < w.heap.size) (hs : s.block < w.heap.size) :
    w2.cell? p = some a ∧ w2.cell? q = some b ∧ w2.cell? r = some c ∧ w2.cell? s = some d ∧ Below w.heap.size w w2 := by
  obtain ⟨h1, h2, h3, h4, h5⟩ := hS
  have hz := h5.size
  exact ⟨(hb.cell (by omega)).trans h1, (hb.cell (by omega)).trans h2, (hb.cell (by omega)).trans h3, (hb.cell (by omega)).trans h4, h5.trans (hb.mono hz)⟩
theorem eqE_true {e f : Int × Int} (h : eqE e.1 e.2 f.1 f.2 = true) : e = f := by
  simp only [eqE, Bool.and_eq_true, decide_eq_true_eq] at h
  exact Prod.ext h.1 h.2
theorem eqE_false {e f : Int × Int} (h : eqE e.1 e.2 f.1 f.2 = false) : e ≠ f := by
  rintro rfl
  simp [eqE] at h
theorem take_same {α : Type} {es fs : List α} {k : Nat} {e : α} (ht : es.take k = fs.take k) (he : es[k]? = some e) (hf : fs[k]? = some e) : es.take (k + 1) = fs.take (k + 1) := by
  rw [List.take_add_one, List.take_add_one, ht, he, hf]
theorem take_differ {α : Type} [DecidableEq α] {es fs : List α} {k : Nat} {e f : α} (he : es[k]? = some e) (hf : fs[k]? = some f) (hne : e ≠ f) : decide (es = fs) = false := by
  rw [decide_eq_false_iff_not]
  rintro rfl
  rw [he] at hf
  injection hf with hf
  exact hne hf
theorem take_all_same {α : Type} [DecidableEq α] {es fs : List α} {k : Nat} (ht : es.take k = fs.take k) (h1 : es.length ≤ k) (h2 : fs.length ≤ k) : decide (es = fs) = true := by
  rw [List.take_of_length_le h1, List.take_of_length_le h2] at ht
  exact decide_eq_true ht

set_option maxHeartbeats 400000 in
theorem eqEdgeS_any (A C : Option Addr) (ca cc : Nat) (es fs : List (Int × Int)) (w : World) (hn : es.length ≤ 9223372036854775807) (hm : fs.length ≤ 9223372036854775807)
    (h1 : EdgeS w w.heap.size A es) (h2 : EdgeS w w.heap.size C fs) :
    Calls Try.prog 57 #[.slice A es.length ca, .slice C fs.length cc] w fun e w' => e = .returned (.bool (decide (es = fs))) ∧ Below w.heap.size w w' := by
  by_cases hl : es.length = fs.length
  · have H1 := Lib.hid h1
    have H2 := Lib.hid h2
    clear h1 h2
    have hl2 : ((es.length : Int) != (fs.length : Int)) = false := by simp [hl]
    have hl3 : es.length ≤ fs.length := by omega
    have hl4 : fs.length ≤ es.length := by omega
    clear hl
    go_enter Try.func57, Try.ntmps57
    go_wp2
    go_loopw [5] (fun i wr => ∃ k : Nat, k ≤ es.length ∧ i = .int .i64 k ∧ es.take k = fs.take k ∧ Below w.heap.size w wr) (fun i _ => es.length - (intOf i).toNat)
    case atStart => exact ⟨0, Nat.zero_le _, rfl, rfl, Below.refl _ _⟩
    case round =>
      obtain ⟨k, hk, rfl, ht, hb⟩ := hrel
      have HT := Lib.hid ht
      clear ht
      by_cases hlt : k < es.length
      · obtain ⟨b1, o1, e, rfl, hb1, he, hc0, hc1⟩ := (H1.out.below hb).at_ hlt
        obtain ⟨b2, o2, f, rfl, hb2, hf, hd0, hd1⟩ := (H2.out.below hb).at_ (k := k) (by omega)
        have HE := Lib.hid he
        have HF := Lib.hid hf
        clear he hf
        have hi0 : (0 : Int) ≤ (k : Int) := Int.natCast_nonneg _
        have hi1 : (k : Int) < (es.length : Int) := by omega
        have hi2 : (k : Int) < (fs.length : Int) := by omega
        go_wp2
        go_region_held3 (fun w' => w'.cell? ⟨b1, o1 + k * 2, none⟩ = some (.int .i64 e.1) ∧ w'.cell? ⟨b1, o1 + k * 2 + 1, none⟩ = some (.int .i64 e.2) ∧ w'.cell? ⟨b2, o2 + k * 2, none⟩ = some (.int .i64 f.1) ∧ w'.cell? ⟨b2, o2 + k * 2 + 1, none⟩ = some (.int .i64 f.2) ∧ Below w.heap.size w w')
          (first
            | exact ⟨hc0, hc1, hd0, hd1, hb.drew⟩
            | exact keep4 (by assumption) hb3 hb1 hb1 hb2 hb2)
          (first | (go_at_call 90; refine (eqEdge_any _ _ _ _ _).mono ?_; rintro e2 w2 ⟨rfl, hb3⟩))
        go_wp2
        · have hE : (!eqE e.1 e.2 f.1 f.2) = true := by assumption
          rw [Bool.not_eq_true'] at hE
          have HQ := Lib.hid (take_differ HE.out HF.out (eqE_false hE))
          go_ret
          exact ⟨ret_boolE HQ.out.symm, hb.drew.trans (hb3.mono hb.size)⟩
        · have hE : (!eqE e.1 e.2 f.1 f.2) = false := by assumption
          rw [Bool.not_eq_false'] at hE
          exact ⟨⟨k + 1, by omega, by go_num, take_same HT.out HE.out (by rw [eqE_true hE]; exact HF.out), hb.drew.trans (hb3.mono hb.size)⟩, by simp [intOf]; omega⟩
      · have HA := Lib.hid (take_all_same HT.out (by omega) (by omega))
        go_wp2
        go_ret
        exact ⟨ret_boolE HA.out.symm, hb⟩
  · have hl2 : ((es.length : Int) != (fs.length : Int)) = true := by simp; omega
    have HD := Lib.hid (show decide (es = fs) = false by rw [decide_eq_false_iff_not]; rintro rfl; exact hl rfl)
    clear hl
    go_enter Try.func57, Try.ntmps57
    go_wp2
    go_ret
    exact ⟨ret_boolE HD.out.symm, Below.refl _ _⟩
end Go.Proofs.Ytbmihbbpdmpmpaa
