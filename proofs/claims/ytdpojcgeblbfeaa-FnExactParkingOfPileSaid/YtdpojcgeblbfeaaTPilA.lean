/- Sandpiles: PileOk: the specification's side. -/
import Derived.Test.YtdpojcgeblbfeaaTPilM
import Derived.Test.YtdpojcgeblbfeaaTBI
import Derived.Test.YtdpojcgeblbfeaaTEff
import Derived.Test.YtdpojcgeblbfeaaTBJ
import Derived.Test.YtdpojcgeblbfeaaTBE
import Derived.Test.YtdpojcgeblbfeaaTBF
set_option linter.all false
namespace Go.Proofs.Ytdpojcgeblbfeaa
open Go.RowKit

noncomputable def pileB (N : Int) (es : List (Int × Int)) (p : List Int) (q : Int) : Bool := divB 60 N es p && (vB q N && (posAll p && decide (p.getD q.toNat 0 = 0)))
structure PileL (M q : Nat) (es : List (Int × Int)) (p : List Int) : Prop where
  m0 : 0 < M
  m6 : M ≤ 6
  n12 : es.length ≤ 12
  ed : ∀ e ∈ es, 0 ≤ e.1 ∧ e.1 < e.2 ∧ e.2 < (M : Int)
  cut : Cut M es
  len : p.length = M
  lim : ∀ u, 0 ≤ p.getD u 0 ∧ p.getD u 0 ≤ 60
  qm : q < M
  zero : p.getD q 0 = 0
theorem pile_parts {N : Int} {es : List (Int × Int)} {p : List Int} {q : Int} (h : pileB N es p q = true) : ∃ M k : Nat, N = (M : Int) ∧ q = (k : Int) ∧ PileL M k es p ∧ graphB N es = true := by
  unfold pileB at h
  simp only [Bool.and_eq_true, decide_eq_true_eq] at h
  obtain ⟨h1, h2, h3, h4⟩ := h
  obtain ⟨M, rfl, h0, h6, hn, hl, hes, hdb, hc⟩ := div_limsB h1
  obtain ⟨k1, k2⟩ := vB_iff h2
  obtain ⟨k, rfl⟩ : ∃ k : Nat, q = (k : Int) := ⟨q.toNat, by omega⟩
  refine ⟨M, k, rfl, rfl, ⟨h0, h6, hn, hes, hc.cut, hl, fun u => ⟨?_, (hdb u).2⟩, by omega, h4⟩, (divB_all h1).1⟩
  by_cases hu : u < p.length
  · have := (List.all_eq_true.1 h3) p[u] (List.getElem_mem hu)
    unfold posB at this
    rw [decide_eq_true_eq] at this
    simpa [List.getD, hu] using this
  · simp [List.getD, List.getElem?_eq_none (Nat.le_of_not_lt hu)]
theorem touch_net {v : Nat} {e : Int × Int} (h : e.1 < e.2) : net (v : Int) v e = if touch (v : Int) e = true then -1 else 0 := by
  unfold net ind touch
  simp only [Bool.or_eq_true, beq_iff_eq]
  repeat' split
  all_goals omega
theorem val_P (v : Nat) : ∀ es : List (Int × Int), (∀ e ∈ es, e.1 < e.2) → ((es.filter (touch (v : Int))).length : Int) = valP es v
  | [], _ => by simp [valP, nets]
  | e :: l, h => by
    have ih := val_P v l fun x hx => h x (by simp [hx])
    have h1 := touch_net (v := v) (h e (by simp))
    unfold valP at ih ⊢
    rw [nets, h1, List.filter_cons]
    split
    · rw [List.length_cons]
      omega
    · omega
theorem valP_lim (v : Nat) (es : List (Int × Int)) (h : ∀ e ∈ es, e.1 < e.2) : 0 ≤ valP es v ∧ valP es v ≤ es.length := by
  have := nets_self v es h
  unfold valP
  omega
theorem PileL.hp {M q : Nat} {es : List (Int × Int)} {p : List Int} (h : PileL M q es p) : ∀ u, u < M → u ≠ q → 0 ≤ p.getD u 0 := fun u _ _ => (h.lim u).1
theorem PileL.ex {M q : Nat} {es : List (Int × Int)} {p : List Int} (h : PileL M q es p) : IsSet M es p q (settN M es p q) := settN_is (set_ex h.cut h.ed (B := 60) (by omega) (fun u _ _ => h.lim u) h.qm)
theorem Tops.lims {M q : Nat} {es : List (Int × Int)} {p : List Int} {n : Nat → Int} (h : PileL M q es p) (ht : Tops M es p q n) : ∀ u, 0 ≤ n u ∧ n u ≤ 2160 := fun u => by
  have f := ht.facts h.ed h.hp
  by_cases hu : u < M
  · have h1 := ht.cap h.cut h.ed (B := 60) (by omega) (fun u _ _ => h.lim u) h.qm u hu
    have h6 := h.m6
    have h2 : (60 : Int) * (M : Int) * (M : Int) ≤ 2160 := by
      have : (M : Int) * (M : Int) ≤ 6 * 6 := Int.mul_le_mul (by omega) (by omega) (by omega) (by omega)
      rw [Int.mul_assoc]
      omega
    exact ⟨f.2.1 u, by omega⟩
  · rw [f.2.2.1 u (by omega)]
    omega
theorem Tops.chips {M q : Nat} {es : List (Int × Int)} {p : List Int} {n : Nat → Int} (h : PileL M q es p) (ht : Tops M es p q n) (u : Nat) : -100000 ≤ Dv p es n u ∧ Dv p es n u ≤ 100000 := by
  have h1 := termsF_bound (f := n) (K := 2160) u M (fun v _ => by have := ht.lims h v; omega) es h.ed
  have h2 := h.lim u
  have h3 := h.n12
  unfold Dv
  have h4 : (2 * 2160 * (es.length : Int)) ≤ 2 * 2160 * 12 := by omega
  omega
set_option maxRecDepth 100000 in
set_option maxHeartbeats 1000000 in
theorem specPile (N : Int) (A D : Option Addr) (c cd : Nat) (es : List (Int × Int)) (p : List Int) (q : Int) (w : World) (hn : es.length ≤ 1048576) (hd : p.length ≤ 1048576) (hE : EdgeS w w.heap.size A es) (hS : IntS w w.heap.size D p) :
    Calls Try.prog 191 #[.agg #[.int .i64 N, .slice A es.length c], .slice D p.length cd, .int .i64 q] w fun e w' => e = .returned (.bool (pileB N es p q)) ∧ Below w.heap.size w w' := by
  have HE := Lib.hid hE
  have HS := Lib.hid hS
  have G0 := GB.start w N A c es
  have HD := fun w h1 h2 => Lib.hid (specDiv N A D c cd es p w hn hd h1 h2)
  unfold pileB
  clear hE hS
  cases h1 : divB 60 N es p with
  | false =>
    rw [h1] at HD
    clear h1
    go_enter Try.func191, Try.ntmps191
    go_wp2_with fail
    refine (HD _ (HE.out.up_ G0.old) (HS.out.up_ G0.old)).out.mono ?_
    rintro e w1 ⟨rfl, hb1⟩
    have G1 := Lib.hid (G0.next hb1)
    clear G0 hb1
    go_wp2
    go_ret
    exact ⟨ret_boolE rfl, G1.out.old⟩
  | true =>
    rw [h1] at HD
    obtain ⟨M, rfl, h0, h6, hn12, hl, -, -, -⟩ := div_limsB h1
    have HL := Lib.hid hl
    clear hl
    have HV := fun w => Lib.hid (l01In_any q 0 ((M : Int) - 1) w)
    rw [inB_vB] at HV
    cases h2 : vB q (M : Int) with
    | false =>
      rw [h2] at HV
      clear h1 h2
      go_enter Try.func191, Try.ntmps191
      go_wp2_with fail
      refine (HD _ (HE.out.up_ G0.old) (HS.out.up_ G0.old)).out.mono ?_
      rintro e w1 ⟨rfl, hb1⟩
      have G1 := Lib.hid (G0.next hb1)
      have c0 := G1.out.c0
      have c1 := G1.out.c1
      clear G0 hb1
      go_wp2_with fail
      refine (HV _).out.mono ?_
      rintro e w' ⟨rfl, rfl⟩
      go_wp2
      go_ret
      exact ⟨ret_boolE rfl, G1.out.old⟩
    | true =>
      rw [h2] at HV
      obtain ⟨hq0, hq1⟩ := vB_iff h2
      obtain ⟨k, rfl⟩ : ∃ k : Nat, q = (k : Int) := ⟨q.toNat, by omega⟩
      have HP := fun w h => Lib.hid (specEff D cd p w hd h)
      cases h3 : posAll p with
      | false =>
        rw [h3] at HP
        clear h1 h2 h3
        go_enter Try.func191, Try.ntmps191
        go_wp2_with fail
        refine (HD _ (HE.out.up_ G0.old) (HS.out.up_ G0.old)).out.mono ?_
        rintro e w1 ⟨rfl, hb1⟩
        have G1 := Lib.hid (G0.next hb1)
        have c0 := G1.out.c0
        have c1 := G1.out.c1
        clear G0 hb1
        go_wp2_with fail
        refine (HV _).out.mono ?_
        rintro e w' ⟨rfl, rfl⟩
        go_wp2_with fail
        refine (HP _ (HS.out.up_ G1.out.old)).out.mono ?_
        rintro e w2 ⟨rfl, hb2⟩
        have G2 := Lib.hid (G1.out.next hb2)
        clear hb2 c0 c1
        go_wp2
        go_ret
        exact ⟨ret_boolE rfl, G2.out.old⟩
      | true =>
        rw [h3] at HP
        have hkp : k < p.length := by have := HL.out; omega
        have hk1 : (k : Int) < (p.length : Int) := by omega
        obtain ⟨x, hx⟩ : ∃ x, p[k]? = some x := ⟨_, List.getElem?_eq_getElem hkp⟩
        have hg : p.getD (k : Int).toNat 0 = x := by rw [Int.toNat_natCast, List.getD, hx]; rfl
        rw [hg]
        obtain ⟨bd, od, rfl, hbd, hcd⟩ := HS.out (by omega)
        have hcx := hcd k x hx
        have hbw : bd < w.heap.size := hbd
        have HCX := Lib.hid (show ∀ w', Below w.heap.size w w' → w'.cell? ⟨bd, od + k, none⟩ = some (.int .i64 x) from fun w' hb => (hb.cell (p := ⟨bd, od + k, none⟩) hbd).trans hcx)
        clear h1 h2 h3 hx hg hcd hcx
        go_enter Try.func191, Try.ntmps191
        go_wp2_with fail
        refine (HD _ (HE.out.up_ G0.old) (HS.out.up_ G0.old)).out.mono ?_
        rintro e w1 ⟨rfl, hb1⟩
        have G1 := Lib.hid (G0.next hb1)
        have c0 := G1.out.c0
        have c1 := G1.out.c1
        clear G0 hb1
        go_wp2_with fail
        refine (HV _).out.mono ?_
        rintro e w' ⟨rfl, rfl⟩
        go_wp2_with fail
        refine (HP _ (HS.out.up_ G1.out.old)).out.mono ?_
        rintro e w2 ⟨rfl, hb2⟩
        have G2 := Lib.hid (G1.out.next hb2)
        have hcx := HCX.out w2 G2.out.old
        clear hb2 c0 c1
        go_wp2
        go_ret
        exact ⟨ret_boolE (by rw [Bool.eq_iff_iff]; simp), G2.out.old⟩
end Go.Proofs.Ytdpojcgeblbfeaa
