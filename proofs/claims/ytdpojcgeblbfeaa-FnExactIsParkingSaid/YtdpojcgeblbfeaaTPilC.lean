/- Sandpiles: the first unstable vertex, stabilizing: the specification's side. -/
import Derived.Test.YtdpojcgeblbfeaaTPilB
import Derived.Test.YtdpojcgeblbfeaaTBE
set_option linter.all false
namespace Go.Proofs.Ytdpojcgeblbfeaa
open Go.RowKit

def uns1 (q : Nat) (es : List (Int × Int)) (P : List Int) (v : Nat) : Bool := decide (v ≠ q) && decide (valP es v ≤ P.getD v 0)
def unsF (M q : Nat) (es : List (Int × Int)) (P : List Int) : Option Nat := (List.range M).find? (uns1 q es P)
def unsI : Option Nat → Int
  | some v => (v : Int)
  | none => -1
theorem unsF_none {M q : Nat} {es : List (Int × Int)} {P : List Int} (h : unsF M q es P = none) : ∀ v, v < M → v ≠ q → P.getD v 0 < valP es v := fun v hv hq => by
  have := List.find?_eq_none.1 h v (List.mem_range.2 hv)
  simp only [uns1, Bool.and_eq_true, decide_eq_true_eq, not_and] at this
  have := this hq
  omega
theorem unsF_some {M q v : Nat} {es : List (Int × Int)} {P : List Int} (h : unsF M q es P = some v) : v < M ∧ v ≠ q ∧ valP es v ≤ P.getD v 0 := by
  have h1 := List.find?_some h
  have h2 := List.mem_of_find?_eq_some h
  simp only [uns1, Bool.and_eq_true, decide_eq_true_eq] at h1
  exact ⟨List.mem_range.1 h2, h1.1, h1.2⟩
theorem unsF_at {M q k : Nat} {es : List (Int × Int)} {P : List Int} (hk : k < M) (h0 : ∀ j, j < k → uns1 q es P j = false) (h : uns1 q es P k = true) : unsF M q es P = some k := by
  unfold unsF
  rw [List.find?_range_eq_some]
  exact ⟨h, List.mem_range.2 hk, fun j hj => by rw [h0 j hj]; rfl⟩
theorem unsF_no {M q : Nat} {es : List (Int × Int)} {P : List Int} (h0 : ∀ j, j < M → uns1 q es P j = false) : unsF M q es P = none := by
  unfold unsF
  rw [List.find?_eq_none]
  intro x hx
  rw [h0 x (List.mem_range.1 hx)]
  decide
theorem uns1_q {q : Nat} {es : List (Int × Int)} {P : List Int} : uns1 q es P q = false := by simp [uns1]
set_option maxRecDepth 100000 in
set_option maxHeartbeats 2000000 in
theorem l10Unst_any (A D : Option Addr) (c cd M q : Nat) (es : List (Int × Int)) (P : List Int) (w : World) (hM6 : M ≤ 6) (hn : es.length ≤ 12) (hes : ∀ e ∈ es, 0 ≤ e.1 ∧ e.1 < e.2 ∧ e.2 < (M : Int)) (hl : P.length = M) (hE : EdgeS w w.heap.size A es) (hS : IntS w w.heap.size D P) :
    Calls Try.prog 192 #[.agg #[.int .i64 (M : Int), .slice A es.length c], .slice D M cd, .int .i64 (q : Int)] w fun e w' => e = .returned (.int .i64 (unsI (unsF M q es P))) ∧ Below w.heap.size w w' := by
  have HE := Lib.hid hE
  have HS := Lib.hid hS
  have G0 := GB.start w (M : Int) A c es
  have HV := Lib.hid (show ∀ (v : Nat) (W : World), v < M → EdgeS W W.heap.size A es → Calls Try.prog 123 #[.agg #[.int .i64 (M : Int), .slice A es.length c], .int .i64 (v : Int)] W fun e w' => e = .returned (.int .i64 (valP es v)) ∧ Below W.heap.size W w' from fun v W hv h => by
    have k := specVal_yes (M : Int) A c es (v : Int) W (by omega) (vB_t (by omega)) h
    rw [val_P v es fun e he => (hes e he).2.1] at k
    exact k)
  have HL := Lib.hid hl
  clear hE hS hes hl
  go_enter Try.func192, Try.ntmps192
  go_wp2
  go_loopw [7, 8, 11] (fun _ _ i wr => ∃ k : Nat, k ≤ M ∧ i = .int .i64 k ∧ (∀ j, j < k → uns1 q es P j = false) ∧ GB w wr (M : Int) A c es) (fun _ _ i _ => M - (intOf i).toNat)
  case atStart => exact ⟨0, Nat.zero_le _, rfl, fun j hj => absurd hj (Nat.not_lt_zero _), G0⟩
  case round =>
    clear G0
    obtain ⟨k, hk, rfl, hno, hg⟩ := hrel
    have HN := Lib.hid hno
    have G1 := Lib.hid hg
    have c0 := G1.out.c0
    have c1 := G1.out.c1
    clear hno hg
    have hk0 : (0 : Int) ≤ (k : Int) := Int.natCast_nonneg _
    by_cases hlt : k < M
    · have hk1 : (k : Int) < (M : Int) := by omega
      obtain ⟨bd, od, x, rfl, hbd, he, hc0⟩ := (HS.out.up_ G1.out.old).at_ (by rw [HL.out]; exact hlt)
      have hgx : P.getD k 0 = x := by rw [List.getD, he]; rfl
      by_cases hkq : k = q
      · have t1 : (((k : Int) != (q : Int))) = false := by simp [hkq]
        have HN2 := Lib.hid (show ∀ j, j < k + 1 → uns1 q es P j = false from fun j hj => by
          by_cases e : j = k
          · rw [e, hkq]; exact uns1_q
          · exact HN.out j (by omega))
        clear he hgx hkq
        go_wp2
        exact ⟨⟨k + 1, by omega, by go_num, HN2.out, G1.out⟩, by simp [intOf]; omega⟩
      · have t1 : (((k : Int) != (q : Int))) = true := by simp; omega
        obtain ⟨vl, hvl⟩ : ∃ z, z = valP es k := ⟨_, rfl⟩
        have HV2 := HV.out k wr hlt (HE.out.up_ G1.out.old)
        rw [← hvl] at HV2
        by_cases hge : vl ≤ x
        · have t2 : decide (x ≥ vl) = true := decide_eq_true hge
          have HU := Lib.hid (unsF_at hlt HN.out (show uns1 q es P k = true by simp only [uns1, Bool.and_eq_true, decide_eq_true_eq]; exact ⟨hkq, by rw [hgx, ← hvl]; exact hge⟩))
          clear he hgx hvl hkq hge
          go_wp2_with fail
          refine HV2.mono ?_
          rintro e w2 ⟨rfl, hb2⟩
          have G2 := Lib.hid (G1.out.next hb2)
          clear hb2 HV2 c0 c1 hc0
          go_wp2
          go_ret
          exact ⟨by rw [HU.out]; rfl, G2.out.old⟩
        · have t2 : decide (x ≥ vl) = false := decide_eq_false hge
          have HN2 := Lib.hid (show ∀ j, j < k + 1 → uns1 q es P j = false from fun j hj => by
            by_cases e : j = k
            · rw [e]
              simp only [uns1, hgx, ← hvl, Bool.and_eq_false_iff, decide_eq_false_iff_not]
              exact .inr hge
            · exact HN.out j (by omega))
          clear he hgx hvl hkq hge
          go_wp2_with fail
          refine HV2.mono ?_
          rintro e w2 ⟨rfl, hb2⟩
          have G2 := Lib.hid (G1.out.next hb2)
          clear hb2 HV2 c0 c1 hc0
          go_wp2
          exact ⟨⟨k + 1, by omega, by go_num, HN2.out, G2.out⟩, by simp [intOf]; omega⟩
    · have HU := Lib.hid (unsF_no (M := M) fun j hj => HN.out j (by omega))
      go_wp2
      go_ret
      exact ⟨by rw [HU.out]; rfl, G1.out.old⟩
end Go.Proofs.Ytdpojcgeblbfeaa
