/- The program's payDebts. -/
import Derived.Test.YtcfhkaefjhcglaaRdI
import Derived.Deep.LoopGhost
namespace Go.Proofs.Ytcfhkaefjhcglaa
open Go.RowKit

theorem borrow_k {x V : Int} (hx : x < 0) (hx2 : -1000000000000 ≤ x) (hV : 1 ≤ V) (hV2 : V ≤ 12) : 1 ≤ (-x + V - 1).tdiv V ∧ (-x + V - 1).tdiv V ≤ 2000000000000 ∧ x + (-x + V - 1).tdiv V * V ≤ 60 := by
  have h0 : 0 ≤ -x + V - 1 := by omega
  rw [Int.tdiv_eq_ediv_of_nonneg h0]
  have h1 := Int.ediv_mul_le (-x + V - 1) (show V ≠ 0 by omega)
  have h2 : 1 ≤ (-x + V - 1) / V := by
    rw [Int.le_ediv_iff_mul_le (by omega)]
    omega
  have h3 : (-x + V - 1) / V ≤ (-x + V - 1) := Int.ediv_le_self _ h0
  omega
set_option maxRecDepth 100000 in
set_option maxHeartbeats 4000000 in
theorem payDebts_any (B pr pb g cg gs M q : Nat) (A : Option Addr) (cA : Nat) (es : List (Int × Int)) (d : List Int) (w : World) (hM : M ≤ 6) (hq : q < M) (hn : es.length ≤ 12) (hes : ∀ e ∈ es, 0 ≤ e.1 ∧ e.1 < e.2 ∧ e.2 < (M : Int)) (hdb : ∀ u, -60 ≤ d.getD u 0 ∧ d.getD u 0 ≤ 60) (hc : Cut M es)
    (hBw : B ≤ w.heap.size) (hE : EdgeS w B A es) (hN : RdN B pr pb g gs) (hR : RdI w B pr pb g cg gs M q A cA es d (fun _ => 0)) :
    Calls Try.prog 103 #[.pointer (some ⟨pr, 0, none⟩)] w fun e w' => e = .returned (.tuple #[]) ∧ ∃ f, Ph1 M es d q f ∧ hasDebt (chipsOf M (Dv d es f)) (q : Int) = false ∧ RdI w' B pr pb g cg gs M q A cA es d f ∧ Below B w w' := by
  obtain ⟨σ, hw⟩ := wt_exists hM hn hq hes hc
  have HN := Lib.hid hn
  have HW := Lib.hid hw
  have HES := Lib.hid hes
  have HDB := Lib.hid hdb
  have HCU := Lib.hid hc
  have HE := Lib.hid hE
  have HNN := Lib.hid hN
  have HR := Lib.hid hR
  have HP := Lib.hid (Ph1.start (M := M) (es := es) (d := d) (q := q) hdb)
  have hBz := hBw
  have hq0 : (0 : Int) ≤ (q : Int) := Int.natCast_nonneg _
  clear hw hes hdb hc hE hN hR
  go_enter Try.func103, Try.ntmps103
  go_wp2
  go_loopg [2, 3, 4] 16287120 (fun gk _ _ _ wr => ∃ (f : Nat → Int), Hid ((gk : Int) = 16287120 + sumV f M) ∧ Hid (Ph1 M es d q f) ∧ Hid (RdI wr B pr pb g cg gs M q A cA es d f) ∧ Hid (Below B w wr) ∧ Hid (B ≤ wr.heap.size))
  case atStart => exact ⟨fun _ => 0, Lib.hid (by rw [sumV_const]; simp), HP, HR, Lib.hid (Below.refl _ _), Lib.hid hBz⟩
  case round =>
    clear HP HR
    obtain ⟨f, HG, HP, HR, HBL, HSZ⟩ := hrel
    have HF := Lib.hid (HP.out.wide HW.out hM HES.out HDB.out)
    have HX := fun (w' : World) (hb : Below wr.heap.size wr w') => Lib.hid (show Calls Try.prog 126 #[.slice (some ⟨g, 0, none⟩) M cg, .int .i64 (q : Int)] w' (fun e w'' => e = .returned (.int .i64 (debtor (chipsOf M (Dv d es f)) (q : Int))) ∧ w'' = w') from by
      have h := debtorBeside_any (some ⟨g, 0, none⟩) cg w'.heap.size (chipsOf M (Dv d es f)) (q : Int) w' (by rw [chipsOf_len]; omega) (HR.out.chips.below hb).ints
      rw [chipsOf_len] at h
      exact h)
    have r0 : wr.cell? ⟨pr, 0, none⟩ = some (.pointer (some ⟨pb, 0, none⟩)) := by rw [HR.out.red.cell]; rfl
    have r1 : wr.cell? ⟨pr, 1, none⟩ = some (.int .i64 (q : Int)) := by rw [HR.out.red.cell]; rfl
    have r2 : wr.cell? ⟨pb, 1, none⟩ = some (.slice (some ⟨g, 0, none⟩) M cg) := by rw [HR.out.brd.cell]; rfl
    rcases debtor_cases (chipsOf M (Dv d es f)) (q : Int) with ⟨h1, h2, _⟩ | ⟨v, hv, h1, h2, h3, _⟩
    · rw [h1] at HX
      have HH := Lib.hid h2
      clear h1 h2
      go_wp2_with fail
      go_quiet (first | (go_at_call 126; exact Calls.quiet_of_same (HX _ (below_drewN (Below.refl _ _) _)).out))
      go_wp2
      refine bodyPost_ret (results_none rfl _ _ _) rfl ?_
      exact ⟨rfl, f, HP.out, HH.out, HR.out.below (below_drewN (Below.refl _ _) _), below_drewN HBL.out _⟩
    · rw [chipsOf_len] at hv
      rw [h1] at HX
      rw [debt_Dv HN.out HDB.out HES.out HF.out hv] at h3
      simp only [Bool.and_eq_true, Bool.not_eq_true', decide_eq_true_eq, decide_eq_false_iff_not] at h3
      obtain ⟨h4, hx⟩ := h3
      have hvq : v ≠ q := by omega
      have hxb := Dv_bound (M := M) (f := f) (d := d) HN.out (fun u => by have := HDB.out u; omega) HES.out HF.out v
      have hVs := nets_self v es (fun e he => (HES.out e he).2.1)
      have hVp := val_pos HCU.out HES.out hv hq hvq
      have hxc := (HR.out.chips.cell v _ (chipsOf_at _ hv)).1
      rw [wrap64_of (by omega) (by omega)] at hxc
      have hk := borrow_k (x := Dv d es f v) (V := -nets (v : Int) v es) hx hxb.1 (by omega) (by have := HN.out; omega)
      have HP2 := Lib.hid (HP.out.step HES.out (v := v) (k := (-Dv d es f v + -nets (v : Int) v es - 1).tdiv (-nets (v : Int) v es)) hvq (by omega) hk.2.2)
      have VAL := fun (w' : World) (hb : Below wr.heap.size wr w') => Lib.hid (valence_any pb cA v B A (.slice (some ⟨g, 0, none⟩) M cg) es w' (Nat.le_trans HSZ.out hb.size) HN.out (fun e he => (HES.out e he).2.1) (HR.out.brd.below hb HR.out.brd.lt) (HE.out.keep (fun p hp => (HBL.out.trans (hb.mono HSZ.out)).cell (by omega)) (Nat.le_refl _)))
      have FIR := fun (t : Int) (w' : World) (hb : Below wr.heap.size wr w') => Lib.hid (fireR_any B pr pb g cg gs M q v A cA es d f t w' (Nat.le_trans HSZ.out hb.size) hv HN.out HES.out (HE.out.keep (fun p hp => (HBL.out.trans (hb.mono HSZ.out)).cell (by omega)) (Nat.le_refl _)) HNN.out (HR.out.below hb))
      obtain ⟨x, hxx⟩ : ∃ x, x = Dv d es f v := ⟨_, rfl⟩
      obtain ⟨V, hVV⟩ : ∃ V, V = -nets (v : Int) v es := ⟨_, rfl⟩
      rw [← hVV] at VAL hk HP2
      rw [← hxx] at hx hxb hxc hk HP2
      have hV1 : 1 ≤ V := by omega
      have hV2 : V ≤ 12 := by have := HN.out; omega
      have HS2 := Lib.hid (show sumV (addAt f v (-(-x + V - 1).tdiv V)) M = sumV f M + -(-x + V - 1).tdiv V from by rw [sumV_addAt, if_pos hv])
      obtain ⟨hk1, hk2, _⟩ := hk
      have hv0 : (0 : Int) ≤ (v : Int) := Int.natCast_nonneg _
      have hv1 : (v : Int) < (M : Int) := by omega
      have hV3 : V ≠ 0 := by omega
      have hV4 : (V == 0) = false := by simp; omega
      clear h1 h2 h4 hvq hVs hVp hxx hVV
      go_wp2_with fail
      go_quiet (first | (go_at_call 126; exact Calls.quiet_of_same (HX _ (below_drewN (Below.refl _ _) _)).out))
      go_wp2_with fail
      refine (VAL _ (below_drewN (Below.refl _ _) _)).out.mono ?_
      rintro e w2 ⟨rfl, hb2⟩
      have hb3 : Below wr.heap.size wr w2 := (below_drewN (Below.refl _ _) nq).trans hb2
      have s0 : w2.cell? ⟨pr, 0, none⟩ = some (.pointer (some ⟨pb, 0, none⟩)) := by rw [(HR.out.red.below hb3 HR.out.red.lt).cell]; rfl
      have s2 : w2.cell? ⟨pb, 1, none⟩ = some (.slice (some ⟨g, 0, none⟩) M cg) := by rw [(HR.out.brd.below hb3 HR.out.brd.lt).cell]; rfl
      have s3 : w2.cell? ⟨g, v, none⟩ = some (.int .i64 x) := (hb3.cell (p := ⟨g, v, none⟩) HR.out.chips.lt).trans hxc
      have HB3 := Lib.hid hb3
      have hx0 : 0 ≤ -x := by omega
      have hx1 : -x ≤ 1000000000000 := by omega
      clear hb2 hb3 VAL HX r0 r1 r2 hxc
      go_wp2_with fail
      refine (FIR _ w2 HB3.out).out.mono ?_
      rintro e w4 ⟨rfl, hr4, hb4, _⟩
      have HR4 := Lib.hid hr4
      have HB4 := Lib.hid ((HBL.out.trans (HB3.out.mono HSZ.out)).trans hb4)
      have HZ4 := Lib.hid (Nat.le_trans (Nat.le_trans HSZ.out HB3.out.size) hb4.size)
      have HL4 := Lib.hid (HP2.out.sum HW.out hM HES.out HDB.out)
      clear hr4 hb4 s0 s2 s3 FIR
      go_wp2
      go_roundg (16287120 + sumV (addAt f v (-(-x + V - 1).tdiv V)) M).toNat
      case measure =>
        have a1 := HG.out
        have a2 := HS2.out
        have a3 := HL4.out
        omega
      case rel => exact ⟨_, Lib.hid (by have := HL4.out; omega), HP2, HR4, HB4, HZ4⟩
end Go.Proofs.Ytcfhkaefjhcglaa
