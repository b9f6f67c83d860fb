/- Sandpiles: DropChip and FullPile: the specification's side. -/
import Derived.Test.YtndncmjhpbjcoaaKPilE
set_option linter.all false
namespace Go.Proofs.Ytndncmjhpbjcoaa
open Go.RowKit

noncomputable def dropOk (N : Int) (es : List (Int × Int)) (p : List Int) (q v : Int) : Bool := stableB N es p q && (decide (v ≠ q) && vB v N)
def oneMore (p : List Int) (v : Nat) : List Int := p.set v (p.getD v 0 + 1)
noncomputable def dropX (N : Int) (es : List (Int × Int)) (p : List Int) (q v : Int) : List Int := if dropOk N es p q v = true then pileL N.toNat es (oneMore p v.toNat) q.toNat (settN N.toNat es (oneMore p v.toNat) q.toNat) else []
noncomputable def dropN (N : Int) (es : List (Int × Int)) (p : List Int) (q v : Int) : Int := if dropOk N es p q v = true then sumV (settN N.toNat es (oneMore p v.toNat) q.toNat) N.toNat else 0
theorem dropX_f {N : Int} {es : List (Int × Int)} {p : List Int} {q v : Int} (h : dropOk N es p q v = false) : dropX N es p q v = [] := by rw [dropX, if_neg (by rw [h]; decide)]
theorem dropN_f {N : Int} {es : List (Int × Int)} {p : List Int} {q v : Int} (h : dropOk N es p q v = false) : dropN N es p q v = 0 := by rw [dropN, if_neg (by rw [h]; decide)]
theorem dropX_t {M k j : Nat} {es : List (Int × Int)} {p : List Int} (h : dropOk (M : Int) es p (k : Int) (j : Int) = true) : dropX (M : Int) es p (k : Int) (j : Int) = pileL M es (oneMore p j) k (settN M es (oneMore p j) k) := by rw [dropX, if_pos h]; rfl
theorem dropN_t {M k j : Nat} {es : List (Int × Int)} {p : List Int} (h : dropOk (M : Int) es p (k : Int) (j : Int) = true) : dropN (M : Int) es p (k : Int) (j : Int) = sumV (settN M es (oneMore p j) k) M := by rw [dropN, if_pos h]; rfl
theorem dropX_len (N : Int) (es : List (Int × Int)) (p : List Int) (q v : Int) : (dropX N es p q v).length ≤ 6 := by
  cases h : dropOk N es p q v with
  | false => rw [dropX_f h]; simp
  | true =>
    have h1 := h
    unfold dropOk stableB at h1
    rw [Bool.and_eq_true, Bool.and_eq_true] at h1
    obtain ⟨M, k, rfl, rfl, hP, -⟩ := pile_parts h1.1.1
    unfold dropX
    rw [if_pos h, pileL_len, Int.toNat_natCast]
    exact hP.m6
theorem oneMore_get {p : List Int} {v : Nat} (hv : v < p.length) (u : Nat) : (oneMore p v).getD u 0 = if u = v then p.getD v 0 + 1 else p.getD u 0 := by
  unfold oneMore
  rw [List.getD, List.getElem?_set]
  by_cases h : v = u
  · subst h
    simp [hv]
  · rw [if_neg h, if_neg (fun e => h e.symm)]
    rfl
theorem PileL.more {M k v : Nat} {es : List (Int × Int)} {p : List Int} (h : PileL M k es p) (hs : unsF M k es p = none) (hv : v < M) (hvk : v ≠ k) : PileL M k es (oneMore p v) := by
  have hst := unsF_none hs v hv hvk
  have hvl := (valP_lim v es fun e he => (h.ed e he).2.1).2
  have hn := h.n12
  refine ⟨h.m0, h.m6, h.n12, h.ed, h.cut, by simp [oneMore, h.len], fun u => ?_, h.qm, ?_⟩
  · rw [oneMore_get (by rw [h.len]; exact hv)]
    have := h.lim u
    have := h.lim v
    split <;> omega
  · rw [oneMore_get (by rw [h.len]; exact hv), if_neg (fun e => hvk e.symm)]
    exact h.zero
def GivesIntOk (w : World) (xs : List Int) (n : Int) (b : Bool) (e : Ending) (w' : World) : Prop :=
  ∃ (A : Option Addr) (c : Nat), e = .returned (.tuple #[.slice A xs.length c, .int .i64 n, .bool b]) ∧ OwnI w' w.heap.size A xs ∧ Below w.heap.size w w'
set_option maxRecDepth 100000 in
set_option maxHeartbeats 4000000 in
theorem specDropC (N : Int) (A D : Option Addr) (c cd : Nat) (es : List (Int × Int)) (p : List Int) (q v : Int) (w : World) (hn : es.length ≤ 1048576) (hd : p.length ≤ 1048576) (hE : EdgeS w w.heap.size A es) (hS : IntS w w.heap.size D p) :
    Calls Try.prog 39 #[.agg #[.int .i64 N, .slice A es.length c], .slice D p.length cd, .int .i64 q, .int .i64 v] w (GivesIntOk w (dropX N es p q v) (dropN N es p q v) (dropOk N es p q v)) := by
  obtain ⟨i0, hi, hz0, hz1, hz2⟩ := info_parts intInfo
  have HE := Lib.hid hE
  have HS := Lib.hid hS
  have G0 := GB.start w N A c es
  have HD := fun w h1 h2 => Lib.hid (specStable N A D c cd es p q w hn hd h1 h2)
  cases h1 : stableB N es p q with
  | false =>
    rw [h1] at HD
    have h0 : dropOk N es p q v = false := by rw [dropOk, h1]; rfl
    rw [dropX_f h0, dropN_f h0, h0]
    clear h1 h0 hE hS
    go_enter Try.func39, Try.ntmps39
    go_wp2_with fail
    refine (HD _ (HE.out.up_ G0.old) (HS.out.up_ G0.old)).out.mono ?_
    rintro e w1 ⟨rfl, hb1⟩
    have G1 := Lib.hid (G0.next hb1)
    clear G0 hb1
    go_wp2
    go_ret3
    exact ⟨none, 0, rfl, OwnI.nil _ _ _, G1.out.old⟩
  | true =>
    rw [h1] at HD
    have hp1 : pileB N es p q = true := by
      unfold stableB at h1
      rw [Bool.and_eq_true] at h1
      exact h1.1
    have hu1 : unsF N.toNat q.toNat es p = none := by
      unfold stableB at h1
      rw [Bool.and_eq_true, decide_eq_true_eq] at h1
      exact h1.2
    obtain ⟨M, k, rfl, rfl, hP, -⟩ := pile_parts hp1
    rw [Int.toNat_natCast, Int.toNat_natCast] at hu1
    by_cases hvq : v = (k : Int)
    · have h0 : dropOk (M : Int) es p (k : Int) v = false := by rw [dropOk, decide_eq_false (show ¬ v ≠ (k : Int) by omega)]; simp
      rw [dropX_f h0, dropN_f h0, h0]
      have t1 : (v == (k : Int)) = true := by simp [hvq]
      clear h1 h0 hE hS hP hp1 hu1 hvq
      go_enter Try.func39, Try.ntmps39
      go_wp2_with fail
      refine (HD _ (HE.out.up_ G0.old) (HS.out.up_ G0.old)).out.mono ?_
      rintro e w1 ⟨rfl, hb1⟩
      have G1 := Lib.hid (G0.next hb1)
      clear G0 hb1
      go_wp2
      go_ret3
      exact ⟨none, 0, rfl, OwnI.nil _ _ _, G1.out.old⟩
    · have t1 : (v == (k : Int)) = false := by simp [hvq]
      have HV := fun w => Lib.hid (l01In_any v 0 ((M : Int) - 1) w)
      rw [inB_vB] at HV
      have hM6 := hP.m6
      have hM0 := hP.m0
      cases h2 : vB v (M : Int) with
      | false =>
        rw [h2] at HV
        have h0 : dropOk (M : Int) es p (k : Int) v = false := by rw [dropOk, h2]; simp
        rw [dropX_f h0, dropN_f h0, h0]
        clear h1 h2 h0 hE hS hP hp1 hu1 hvq
        go_enter Try.func39, Try.ntmps39
        go_wp2_with fail
        refine (HD _ (HE.out.up_ G0.old) (HS.out.up_ G0.old)).out.mono ?_
        rintro e w1 ⟨rfl, hb1⟩
        have G1 := Lib.hid (G0.next hb1)
        have c0 := G1.out.c0
        have c1 := G1.out.c1
        clear G0 hb1
        go_wp2_with fail
        refine (HV _).out.mono ?_
        rintro e w' ⟨rfl, rfl⟩
        go_wp2
        go_ret3
        exact ⟨none, 0, rfl, OwnI.nil _ _ _, G1.out.old⟩
      | true =>
        rw [h2] at HV
        obtain ⟨hv0, hv1⟩ := vB_iff h2
        obtain ⟨v, rfl⟩ : ∃ u : Nat, v = (u : Int) := ⟨v.toNat, by omega⟩
        have hvM : v < M := by omega
        have hvk : v ≠ k := by omega
        have h0 : dropOk (M : Int) es p (k : Int) (v : Int) = true := by rw [dropOk, h1, h2, decide_eq_true hvq]; rfl
        have hP2 := hP.more hu1 hvM hvk
        have hset := hP2.ex
        rw [dropX_t h0, dropN_t h0, h0, ← deg_cnt (hset.tops.lims hP2) hM6]
        have HST := Lib.hid (fun (X : Option Addr) (cx : Nat) (w : World) a b => l10Settle_any hP2 A X c cx w a b)
        have HX := Lib.hid (pileL_len M es (oneMore p v) k (settN M es (oneMore p v) k))
        have hcl := cntL_len M (settN M es (oneMore p v) k)
        obtain ⟨xs, hxs⟩ : ∃ z, z = pileL M es (oneMore p v) k (settN M es (oneMore p v) k) := ⟨_, rfl⟩
        obtain ⟨ys, hys⟩ : ∃ z, z = cntL M (settN M es (oneMore p v) k) := ⟨_, rfl⟩
        rw [← hxs, ← hys] at HST
        rw [← hxs] at HX
        rw [← hys] at hcl
        rw [← hxs, ← hys, show degB ys M = degB ys ys.length by rw [hcl]]
        have HDG := Lib.hid (fun (X : Option Addr) (cx : Nat) (W : World) (h : IntS W W.heap.size X ys) => specDeg X cx ys W (by omega) h)
        rw [hcl] at HDG
        obtain ⟨dz, hdz⟩ : ∃ z, z = degB ys ys.length := ⟨_, rfl⟩
        rw [show degB ys M = dz by rw [hdz, hcl]] at HDG
        rw [← hdz]
        have HPL := Lib.hid hP.len
        obtain ⟨bd, od, rfl, hbd, hcd⟩ := HS.out (by rw [hP.len]; exact hM0)
        have HCD := Lib.hid (show ∀ w', Below w.heap.size w w' → ∀ (i : Nat) (z : Int), p[i]? = some z → w'.cell? ⟨bd, od + i, none⟩ = some (.int .i64 z) from fun w' hb i z hz => (hb.cell (p := ⟨bd, od + i, none⟩) hbd).trans (hcd i z hz))
        obtain ⟨x, hx⟩ : ∃ x, p[v]? = some x := ⟨_, List.getElem?_eq_getElem (by rw [hP.len]; exact hvM)⟩
        have hgx : p.getD v 0 = x := by rw [List.getD, hx]; rfl
        have hxl := hP.lim v
        rw [hgx] at hxl
        have hwx : IntKind.i64.wrap (x + 1) = x + 1 := by rw [IntKind.wrap_i64]; omega
        have HXV := Lib.hid hx
        have HOM := Lib.hid (show oneMore p v = p.set v (x + 1) by rw [oneMore, hgx])
        clear h1 h2 h0 hE hS hP hP2 hset hp1 hu1 hvq hxs hys hcl hdz hcd hx hgx hxl hn
        go_enter Try.func39, Try.ntmps39
        go_wp2_with fail
        refine (HD _ (HE.out.up_ G0.old) (HS.out.up_ G0.old)).out.mono ?_
        rintro e w1 ⟨rfl, hb1⟩
        have G1 := Lib.hid (G0.next hb1)
        have c0 := G1.out.c0
        have c1 := G1.out.c1
        clear G0 hb1
        go_wp2_with fail
        refine (HV _).out.mono ?_
        rintro e w' ⟨rfl, rfl⟩
        have HO0 := Lib.hid (own_emptyF w1 w1.heap.size (Nat.le_refl _) 3)
        have hbe : Below w1.heap.size w1 (w1.alloc (Obj.cells #[] 3)) := (Below.refl _ _).alloc (Nat.le_refl _) _
        have GE := Lib.hid (G1.out.next hbe)
        have hgw := G1.out.lt
        go_wp2_with (at_builtin; refine wpList_append_own _ rfl _ _ 28 rfl w1.heap.size 3 i0 (.int .i64 0) 1 8 Try.underlying28 hi hz0 hz1 hz2 rfl (by decide) _ _ _ rfl HO0.out ⟨bd, od, none⟩ p.length cd (intCells p) rfl ?k0 ?k1 ?k2 ?k3 ?k4 ?k5 ?_)
        case k0 => simp [intCells]
        case k1 =>
          intro j u hj
          simp only [intCells, List.getElem?_map, Option.map_eq_some_iff] at hj
          obtain ⟨z, hz, rfl⟩ := hj
          rw [Addr.add_lit]
          exact HCD.out _ GE.out.old j z hz
        case k2 =>
          intro u hu
          simp only [intCells, List.mem_map] at hu
          obtain ⟨z, _, rfl⟩ := hu
          rfl
        case k3 => have := HPL.out; unfold maxLen; omega
        case k4 => have := HPL.out; omega
        case k5 => simp
        intro v' w5 hown hgrow _
        obtain ⟨g5, cg5, rfl, hg5, hch⟩ := Chips.of_own (l := p) hown (by have := HPL.out; omega)
        have hb5 : Below w1.heap.size (w1.alloc (Obj.cells #[] 3)) w5 := (Below.refl _ _).grown hgrow (by simp) (fun k hk => (HO0.out.lt k hk).1)
        have G5 := Lib.hid (show GB w w5 (M : Int) A c es from ⟨GE.out.box.below hb5 (by omega), GE.out.old.trans (hb5.mono (by omega))⟩)
        obtain ⟨k1, k2⟩ := hch.cell v x HXV.out
        have hset9 := hch.set_ (a := v) (by rw [HPL.out]; exact hvM) (x + 1)
        rw [← HOM.out] at hset9
        have hlt5 := hch.lt
        have G6 := Lib.hid (show GB w (w5.setCell ⟨g5, v, none⟩ (.int .i64 (x + 1))) (M : Int) A c es from ⟨G5.out.box.far (by simp only; omega) _, G5.out.old.setCell (p := ⟨g5, v, none⟩) (by simp only; omega) _⟩)
        have HX6 := Lib.hid (hset9.own (base := 0) (Nat.zero_le _)).ints
        have hvp : (v : Int) < (p.length : Int) := by have := HPL.out; omega
        clear hown hgrow hch hset9 hb5 hbe HO0 GE HCD HXV HOM c0 c1
        have c0 := G5.out.c0
        have c1 := G5.out.c1
        have e0 := G6.out.c0
        have e1 := G6.out.c1
        go_wp2_with fail
        rw [HPL.out]
        refine (HST.out _ _ _ (HE.out.up_ G6.out.old) HX6.out).mono ?_
        rintro e w7 ⟨A1, A2, c7, c8, rfl, ho1, ho2, -, hb7⟩
        have G7 := Lib.hid (G6.out.next hb7)
        have HO1 := Lib.hid (ho1.mono G6.out.old.size)
        have HO2 := Lib.hid ho2.ints
        clear hb7 ho1 ho2 c0 c1 e0 e1 k1 k2
        go_wp2_with fail
        refine (HDG.out A2 _ _ HO2.out).mono ?_
        rintro e w8 ⟨rfl, hb8⟩
        have G8 := Lib.hid (G7.out.next hb8)
        have HO8 := Lib.hid (HO1.out.below hb8)
        clear hb8 HO1
        go_wp2
        go_ret3
        exact ⟨A1, c7, by rw [HX.out]; rfl, HO8.out, G8.out.old⟩
end Go.Proofs.Ytndncmjhpbjcoaa
