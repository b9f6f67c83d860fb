/- Whether a list of edges is in order, and the program's test of it. -/
import Derived.Test.YtkmbdclhjdbhpabCmpE
namespace Go.Proofs.Ytkmbdclhjdbhpab
open Go.RowKit

/-- one edge lies before another -/
def ltE (b a : Int × Int) : Bool := decide (b.1 < a.1) || (decide (b.1 = a.1) && decide (b.2 < a.2))
theorem cmpE_lt (b a : Int × Int) : decide (cmpE b a < 0) = ltE b a := by
  unfold cmpE orE ltE Lib.compareInt
  rcases Int.lt_trichotomy b.1 a.1 with h | h | h
  · have h2 : ¬ a.1 < b.1 := by omega
    simp [h]
  · rw [h]
    rcases Int.lt_trichotomy b.2 a.2 with g | g | g
    · simp [g]
    · simp [g]
    · have g2 : ¬ b.2 < a.2 := by omega
      simp [g, g2]
  · have h2 : ¬ b.1 < a.1 := by omega
    have h3 : ¬ b.1 = a.1 := by omega
    simp [h, h2, h3]
/-- the edge at i + 1 lies before the one at i -/
def pairBad (es : List (Int × Int)) (i : Nat) : Bool := match es[i]?, es[i + 1]? with
  | some a, some b => ltE b a
  | _, _ => false
theorem pairBad_eq {es : List (Int × Int)} {i : Nat} {a b : Int × Int} (ha : es[i]? = some a) (hb : es[i + 1]? = some b) : pairBad es i = ltE b a := by simp only [pairBad, ha, hb]
/-- the edges are in order -/
def ordB (es : List (Int × Int)) : Bool := (List.range es.length).all fun i => !pairBad es i
theorem ordB_true {es : List (Int × Int)} (h : ∀ i, i + 1 < es.length → pairBad es i = false) : ordB es = true := by
  unfold ordB
  rw [List.all_eq_true]
  intro i _
  by_cases hl : i + 1 < es.length
  · simp [h i hl]
  · have : es[i + 1]? = none := List.getElem?_eq_none (by omega)
    unfold pairBad
    rw [this]
    cases es[i]? <;> rfl
theorem ordB_false {es : List (Int × Int)} {i : Nat} (h : pairBad es i = true) : ordB es = false := by
  unfold ordB
  rw [List.all_eq_false]
  refine ⟨i, ?_, by simp [h]⟩
  rw [List.mem_range]
  rcases Nat.lt_or_ge i es.length with g | g
  · exact g
  · rw [pairBad, List.getElem?_eq_none g] at h
    cases h

set_option maxHeartbeats 1000000 in
theorem isSorted_any (A : Option Addr) (c : Nat) (es : List (Int × Int)) (w : World) (hn : es.length ≤ 1048576) (hE : EdgeS w w.heap.size A es) :
    Calls Try.prog 92 #[.slice A es.length c, .func (.func 78) #[] #[]] w fun e w' => e = .returned (.bool (ordB es)) ∧ Below w.heap.size w w' := by
  have HE := Lib.hid hE
  clear hE
  go_enter Try.func92, Try.ntmps92
  go_wp2
  go_loopw [5] (fun i wr => ∃ z : Int, -1 ≤ z ∧ z < es.length ∧ i = .int .i64 z ∧ (∀ j : Nat, z ≤ j → j + 1 < es.length → pairBad es j = false) ∧ Below w.heap.size w wr) (fun i _ => (intOf i).toNat)
  case atStart => exact ⟨(es.length : Int) - 1, by omega, by omega, rfl, fun j h1 h2 => by omega, Below.refl _ _⟩
  case round =>
    obtain ⟨z, hz0, hz1, rfl, hgood, hb⟩ := hrel
    have HG := Lib.hid hgood
    clear hgood
    by_cases hz : 0 < z
    · obtain ⟨k, rfl⟩ : ∃ k : Nat, z = (k : Int) + 1 := ⟨(z - 1).toNat, by omega⟩
      obtain ⟨b1, o1, e, hA1, hb1, he, hc0, hc1⟩ := (HE.out.below hb).at_ (k := k + 1) (by omega)
      obtain ⟨b2, o2, f, hA2, hb2, hf, hd0, hd1⟩ := (HE.out.below hb).at_ (k := k) (by omega)
      have hA3 := hA1.symm.trans hA2
      simp only [Option.some.injEq, Addr.mk.injEq, and_true] at hA3
      obtain ⟨rfl, rfl⟩ := hA3
      subst hA1
      have hi0 : (0 : Int) ≤ (k : Int) + 1 := by omega
      have hi1 : (k : Int) + 1 < (es.length : Int) := by omega
      have hi2 : (0 : Int) ≤ (k : Int) := by omega
      have hi3 : (k : Int) < (es.length : Int) := by omega
      have hs : (k : Int) + 1 - 1 = (k : Int) := by omega
      have hw : IntKind.i64.wrap ((k : Int) + 1 - 1) = (k : Int) := by rw [IntKind.wrap_i64]; omega
      have hw2 : IntKind.i64.wrap (k : Int) = (k : Int) := by rw [IntKind.wrap_i64]; omega
      have hq : ((k : Int) + 1).toNat = k + 1 := by omega
      have HP := Lib.hid (pairBad_eq hf he)
      have HC := Lib.hid (cmpE_lt e f)
      clear hA2 he hf hz hz0
      have l0 := hb.size
      go_wp2_with fail
      go_region_held3 (fun w' => w'.cell? ⟨b1, o1 + (k + 1) * 2, none⟩ = some (.int .i64 e.1) ∧ w'.cell? ⟨b1, o1 + (k + 1) * 2 + 1, none⟩ = some (.int .i64 e.2) ∧ w'.cell? ⟨b1, o1 + k * 2, none⟩ = some (.int .i64 f.1) ∧ w'.cell? ⟨b1, o1 + k * 2 + 1, none⟩ = some (.int .i64 f.2) ∧ Below w.heap.size w w')
        (first
          | exact ⟨hc0, hc1, hd0, hd1, hb.drew⟩
          | assumption
          | exact keep4 (by assumption) hb6 hb1 hb1 hb1 hb1)
        (first
          | (go_at_call 78; refine (compareEdges_any _ _ _ _ _).mono ?_; rintro e w6 ⟨rfl, hb6⟩))
      have hb7 : Below w.heap.size w w6 := And.right (And.right (And.right (And.right (by assumption))))
      by_cases hlt : cmpE (e.1, e.2) (f.1, f.2) < 0
      · have HT := HC.out
        rw [decide_eq_true hlt, ← HP.out] at HT
        have HF := Lib.hid (ordB_false HT.symm)
        clear HT
        go_wp2
        go_ret
        exact ⟨ret_boolE HF.out.symm, hb7⟩
      · have HT := HC.out
        rw [decide_eq_false hlt, ← HP.out] at HT
        have HF := Lib.hid HT.symm
        clear HT
        go_wp2
        exact ⟨⟨k, by omega, by omega, by go_num, fun j h1 h2 => by
          rcases Nat.lt_or_ge k j with g | g
          · exact HG.out j (by omega) h2
          · have : j = k := by omega
            rw [this]; exact HF.out, hb7⟩, by simp [intOf]⟩
    · have HF := Lib.hid (ordB_true (es := es) fun i hi => HG.out i (by omega) hi)
      go_wp2
      go_ret
      exact ⟨ret_boolE HF.out.symm, hb⟩
end Go.Proofs.Ytkmbdclhjdbhpab
