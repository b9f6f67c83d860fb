/- The program's Determinant. -/
import Derived.Test.YtkmbdclhjdbhpabDetI
import Derived.Test.YtkmbdclhjdbhpabMatOk
namespace Go.Proofs.Ytkmbdclhjdbhpab
open Go.RowKit

theorem bit_pow : ∀ n : Nat, n < 7 → wrap64 ((2 : Int) ^ n) = ((2 ^ n : Nat) : Int) := by decide +kernel
theorem none_cells {n : Nat} (hn : n ≤ 6) : (intCells (List.replicate (2 ^ n) 0)).set 0 (.int .i64 1) = intCells (chipsOf (2 ^ n) (minorA n [])) := by
  have e : (intCells (List.replicate (2 ^ n) 0)).set 0 (.int .i64 1) = intCells ((List.replicate (2 ^ n) 0).set 0 1) := by simp [intCells, List.map_set]
  rw [e]
  congr 1
  apply List.ext_getElem?
  intro i
  by_cases hi : i < 2 ^ n
  · rw [chipsOf_at _ hi, minorA_none hn hi]
    by_cases h0 : i = 0
    · subst h0
      rw [List.getElem?_set_self (by simpa using hi), if_pos rfl, wrap64_of (by omega) (by omega)]
    · rw [List.getElem?_set_ne (Ne.symm h0), List.getElem?_replicate, if_pos hi, if_neg h0, wrap64_of (by omega) (by omega)]
  · rw [List.getElem?_eq_none (by simp; omega), List.getElem?_eq_none (by rw [chipsOf_len]; omega)]
set_option maxHeartbeats 1000000 in
theorem noRows_any (n : Nat) (w : World) (hn : n ≤ 6) :
    Calls Try.prog 74 #[.int .i64 (n : Int)] w (GivesInts w (chipsOf (2 ^ n) (minorA n []))) := by
  have hNC := none_cells hn
  have hpow := bit_pow n (by omega)
  obtain ⟨M, hM⟩ : ∃ M, M = minorA n [] := ⟨_, rfl⟩
  rw [← hM] at hNC ⊢
  have hK0 : 0 < 2 ^ n := Nat.two_pow_pos n
  obtain ⟨K, hK⟩ : ∃ K, K = 2 ^ n := ⟨_, rfl⟩
  have hK64 : K ≤ 64 := by rw [hK]; exact Nat.pow_le_pow_right (by omega) hn
  rw [← hK] at hNC hpow hK0 ⊢
  have hmk := make_ints K (by omega)
  have HNC := Lib.hid hNC
  have HL := Lib.hid (chipsOf_len K M)
  have hbl := Blk.new w 3 (intCells (List.replicate K 0)).toArray
  have hcl : (w.alloc (Obj.cells (intCells (List.replicate K 0)).toArray 3)).cell? ⟨w.heap.size, 0, none⟩ = some (.int .i64 0) := by rw [hbl.cell]; simp [intCells, hK0]
  have hfz := hbl.frozen 0
  have hk1 : (0 : Int) < (K : Int) := by omega
  clear hNC hK hM hbl
  go_enter Try.func74, Try.ntmps74
  go_wp2
  go_ret
  exact ⟨some ⟨w.heap.size, 0, none⟩, K, by rw [HL.out]; rfl, OwnI.of_blk (t := 3) (by rw [← HNC.out]; exact Blk.new _ _ _) (Nat.le_refl _), (Below.refl _ _).alloc (Nat.le_refl _) _⟩

def GivesK (w : World) (K : Nat) (zs : List Int) (e : Ending) (w' : World) : Prop := ∃ (A : Option Addr) (c : Nat), e = .returned (.slice A K c) ∧ IntS w' w'.heap.size A zs ∧ Below w.heap.size w w'
theorem GivesK.of {P : Program} {f : FuncId} {args : Array Value} {w : World} {K : Nat} {zs : List Int} (hz : zs.length = K) (h : Calls P f args w (GivesInts w zs)) : Calls P f args w (GivesK w K zs) :=
  h.mono fun e w' ⟨A, c, he, ho, hb⟩ => ⟨A, c, by rw [he, hz], ho.ints, hb⟩
/-- a row as a function of the column -/
def rowF (r : List Int) (c : Nat) : Int := r.getD c 0
def detB (rs : List (List Int)) : Int := if matB rs = true then wrap64 (detF (rs.map rowF) (List.range rs.length)) else 0
theorem detB_f {rs : List (List Int)} (h : matB rs = false) : detB rs = 0 := by rw [detB, if_neg (by rw [h]; decide)]
theorem detB_t {rs : List (List Int)} (h : matB rs = true) : detB rs = wrap64 (detF (rs.map rowF) (List.range rs.length)) := by rw [detB, if_pos h]
theorem matB_entries {rs : List (List Int)} (h : matB rs = true) : rs.length ≤ 6 ∧ ∀ r ∈ rs, r.length = rs.length ∧ ∀ x ∈ r, -500 ≤ x ∧ x ≤ 500 := by
  simp only [matB, Bool.and_eq_true, decide_eq_true_eq, List.all_eq_true] at h
  refine ⟨h.1, fun r hr => ?_⟩
  have := h.2 r hr
  simp only [rowOk, Bool.and_eq_true, decide_eq_true_eq, List.all_eq_true] at this
  refine ⟨this.1, fun x hx => ?_⟩
  have h3 := this.2 x hx
  simp only [entryOk, Bool.and_eq_true, decide_eq_true_eq] at h3
  exact h3
def revTo (rs : List (List Int)) (k : Nat) : List (Nat → Int) := ((rs.take k).map rowF).reverse
theorem revTo_step {rs : List (List Int)} {k : Nat} {r : List Int} (h : rs[k]? = some r) : revTo rs (k + 1) = (fun c => r.getD c 0) :: revTo rs k := by
  rw [revTo, List.take_add_one, h, Option.toList_some, List.map_append, List.reverse_append]
  rfl
set_option maxHeartbeats 1000000 in
theorem implDet (A : Option Addr) (c : Nat) (rs : List (List Int)) (w : World) (hn : rs.length ≤ 1048576) (hl : ∀ r ∈ rs, r.length ≤ 1048576) (hS : IntSS w w.heap.size A rs) :
    Calls Try.prog 36 #[.slice A rs.length c] w fun e w' => e = .returned (.int .i64 (detB rs)) ∧ Below w.heap.size w w' := by
  have HM := Lib.hid (implMatrixOk A c rs w (by omega) (fun r hr => by have := hl r hr; omega) hS)
  have HS := Lib.hid hS
  clear hS hl
  cases hB : matB rs with
  | false =>
    rw [hB] at HM
    rw [detB_f hB]
    clear hB
    go_enter Try.func36, Try.ntmps36
    go_wp2_with fail
    refine HM.out.mono ?_
    rintro e w1 ⟨rfl, hb1⟩
    go_wp2
    go_ret
    exact ⟨rfl, hb1⟩
  | true =>
    rw [hB] at HM
    rw [detB_t hB]
    obtain ⟨h6, hent⟩ := matB_entries hB
    have HA := minorA_all (n := rs.length) (rs.map rowF) h6 (by simp)
    have hK0 : 0 < 2 ^ rs.length := Nat.two_pow_pos _
    obtain ⟨K, hK⟩ : ∃ K, K = 2 ^ rs.length := ⟨_, rfl⟩
    have hK64 : K ≤ 64 := by rw [hK]; exact Nat.pow_le_pow_right (by omega) h6
    have HEN := Lib.hid hent
    have HNR := fun w => GivesK.of (chipsOf_len _ _) (noRows_any rs.length w h6)
    have HWR := fun A C ca cc R row w h1 h2 h3 h4 => Lib.hid (GivesK.of (chipsOf_len _ _) (withRow_any rs.length A C ca cc R row w h6 h1 h2 h3 h4))
    have hr0 : minorA rs.length [] = minorA rs.length (revTo rs 0) := by simp [revTo]
    rw [← hK] at HNR HWR HA hK0
    rw [hr0] at HNR
    have HNR2 := fun w => Lib.hid (HNR w)
    have HALL := Lib.hid (show minorA rs.length (revTo rs rs.length) (K - 1) = detF (rs.map rowF) (List.range rs.length) by rw [← HA, revTo, List.take_length])
    have HST := fun k r h => Lib.hid (revTo_step (rs := rs) (k := k) (r := r) h)
    clear hB hK hr0 HA hent HNR
    go_enter Try.func36, Try.ntmps36
    go_wp2_with fail
    refine HM.out.mono ?_
    rintro e w1 ⟨rfl, hb1⟩
    have hs1 := hb1.size
    go_wp2_with fail
    refine (HNR2 _).out.mono ?_
    rintro e w2 ⟨A2, c2, rfl, ho2, hb2⟩
    have hbb := hb1.trans (hb2.mono hs1)
    have HO2 := Lib.hid ho2
    clear ho2 hb2
    go_wp2_with fail
    go_loopw [3, 15] (fun v i wr => ∃ k : Nat, k ≤ rs.length ∧ i = .int .i64 k ∧ (∃ A' c', v = .slice A' K c' ∧ IntS wr wr.heap.size A' (chipsOf K (minorA rs.length (revTo rs k)))) ∧ Below w.heap.size w wr) (fun _ i _ => rs.length - (intOf i).toNat)
    case atStart => exact ⟨0, Nat.zero_le _, rfl, ⟨A2, c2, rfl, HO2.out⟩, hbb⟩
    case round =>
      obtain ⟨k, hk, rfl, ⟨A', c', rfl, hms⟩, hb⟩ := hrel
      have HMS := Lib.hid hms
      clear hms
      by_cases hlt : k < rs.length
      · obtain ⟨b1, o1, r, Ai, ci, rfl, hb1', he, hc0, hri⟩ := (HS.out.below hb).at_ hlt
        have hk0 : (0 : Int) ≤ (k : Int) := Int.natCast_nonneg _
        have hk1 : (k : Int) < (rs.length : Int) := by omega
        obtain ⟨hrl, hre⟩ := HEN.out r (List.mem_of_getElem? he)
        have HST1 := Lib.hid (HST k r he).out
        have HRE := Lib.hid hre
        have HRL := Lib.hid (show r.length = rs.length by omega)
        have hbs := hb.size
        have HRI := Lib.hid (IntS.wide hri (show w.heap.size ≤ wr.heap.size by omega))
        clear he hre hrl hri
        go_wp2_with fail
        refine (HWR _ _ _ _ _ _ _ HRL.out HRE.out HMS.out HRI.out).out.mono ?_
        rintro e w4 ⟨A4, c4, rfl, ho4, hb4⟩
        rw [← HST1.out] at ho4
        have HO4 := Lib.hid ho4
        have hb5 := hb.trans (hb4.mono hbs)
        clear ho4 hb4
        go_wp2
        exact ⟨⟨k + 1, by omega, by go_num, ⟨A4, c4, rfl, HO4.out⟩, hb5⟩, by simp [intOf]; omega⟩
      · have hms2 := HMS.out
        rw [show k = rs.length by omega] at hms2
        obtain ⟨b1, o1, z, rfl, hb1', hz, hc0⟩ := hms2.at_ (k := K - 1) (by rw [chipsOf_len]; omega)
        rw [chipsOf_at _ (by omega), HALL.out] at hz
        injection hz with hz
        subst hz
        have hkk : (K : Int) - 1 = ((K - 1 : Nat) : Int) := by omega
        have hk0 : (0 : Int) ≤ ((K - 1 : Nat) : Int) := Int.natCast_nonneg _
        have hk1 : ((K - 1 : Nat) : Int) < (K : Int) := by omega
        clear hms2
        go_wp2
        go_ret
        exact ⟨rfl, hb⟩
end Go.Proofs.Ytkmbdclhjdbhpab
