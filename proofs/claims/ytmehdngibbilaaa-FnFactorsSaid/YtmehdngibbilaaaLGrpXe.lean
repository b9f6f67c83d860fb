/- The critical group: the program's SumOfClasses. -/
import Derived.Test.YtmehdngibbilaaaLGrpXc
namespace Go.Proofs.Ytmehdngibbilaaa
open Go.RowKit

theorem fold_one {m : Nat} {es : List (Int × Int)} (h : Gx m es) {a : List Int} (ha : ZerL m a) : foldC (m + 1) es (List.replicate (m + 1) 0) [a] = rdc (m + 1) es a := by
  have hz := ZerL.none (m := m)
  refine h.same (plusL_len _ _ _) (fun u => by have := plusL_lim (M := m + 1) hz.lim ha.lim (by omega) (by omega) u; omega) ha.len (fun u => by have := ha.lim u; omega) (Eqv.of_eq fun u hu => ?_)
  rw [plusL_gt hu, gt_rep]
  omega
theorem fold_two {m : Nat} {es : List (Int × Int)} (h : Gx m es) {a b : List Int} (ha : ZerL m a) (hb : ZerL m b) : foldC (m + 1) es (List.replicate (m + 1) 0) [a, b] = rdc (m + 1) es (plusL (m + 1) a b) := by
  have e : foldC (m + 1) es (List.replicate (m + 1) 0) [a, b] = rdc (m + 1) es (plusL (m + 1) (foldC (m + 1) es (List.replicate (m + 1) 0) [a]) b) := rfl
  rw [e, fold_one h ha]
  have hr := h.rdc ha.len fun u => by have := ha.lim u; omega
  have hz := ha.redZ h
  refine h.same (plusL_len _ _ _) (fun u => by have := plusL_lim (M := m + 1) hz.lim hb.lim (by omega) (by omega) u; omega) (plusL_len _ _ _) (fun u => by have := plusL_lim (M := m + 1) ha.lim hb.lim (by omega) (by omega) u; omega) ?_
  exact (hr.eqv.symm.add (Eqv.refl (gt b))).congr (fun u hu => plusL_gt hu) fun u hu => plusL_gt hu
theorem adder_new (M : Nat) (A : Option Addr) (c : Nat) (es : List (Int × Int)) (W : World) (hE : EdgeS W W.heap.size A es) :
    Calls Try.prog 70 #[.agg #[.int .i64 (M : Int), .slice A es.length c]] W fun e w' => e = .returned (.func (.func 116) #[] #[.pointer (some ⟨W.heap.size, 0, none⟩)]) ∧ Adr w' M es A c W.heap.size ∧ Below W.heap.size W w' := by
  refine (classAdder_any _ _ W).mono ?_
  rintro e w' ⟨rfl, rfl⟩
  have hb : Below W.heap.size W (W.alloc (.cells #[.int .i64 (M : Int), .slice A es.length c] 25)) := (Below.refl _ _).alloc (Nat.le_refl _) _
  exact ⟨rfl, ⟨Blk.new W _ _, hE.up_ hb⟩, hb⟩
theorem zero_new (M B : Nat) (G : Value) (W : World) (hM : M ≤ 6) (hB : B ≤ W.heap.size) :
    Calls Try.prog 71 #[.agg #[.int .i64 (M : Int), G]] W fun e w' => ∃ bz : Nat, e = .returned (.slice (some ⟨bz, 0, none⟩) M M) ∧ Chips w' bz (List.replicate M 0) ∧ OwnI w' B (some ⟨bz, 0, none⟩) (List.replicate M 0) ∧ W.heap.size ≤ bz ∧ Below W.heap.size W w' := by
  refine (zeroClass_any M G W hM).mono ?_
  rintro e w' ⟨rfl, hc, hs, hb⟩
  exact ⟨_, rfl, hc, hc.own (by omega), by omega, hb⟩
theorem adder_newB (M : Nat) (A : Option Addr) (c : Nat) (es : List (Int × Int)) (w2 W : World) (h : Below w2.heap.size w2 W) (hE : EdgeS W W.heap.size A es) :
    Calls Try.prog 70 #[.agg #[.int .i64 (M : Int), .slice A es.length c]] W fun e w' => ∃ G : Nat, e = .returned (.func (.func 116) #[] #[.pointer (some ⟨G, 0, none⟩)]) ∧ Adr w' M es A c G ∧ Below W.heap.size W w' ∧ Below w2.heap.size w2 w' :=
  (adder_new M A c es W hE).mono fun _ _ k => ⟨_, k.1, k.2.1, k.2.2, h.trans (k.2.2.mono h.size)⟩
theorem zero_newB (M B : Nat) (G : Value) (w2 W : World) (h : Below w2.heap.size w2 W) (hM : M ≤ 6) (hB : B ≤ W.heap.size) :
    Calls Try.prog 71 #[.agg #[.int .i64 (M : Int), G]] W fun e w' => ∃ bz : Nat, e = .returned (.slice (some ⟨bz, 0, none⟩) M M) ∧ OwnI w' B (some ⟨bz, 0, none⟩) (List.replicate M 0) ∧ Below W.heap.size W w' ∧ Below w2.heap.size w2 w' := by
  refine (zero_new M B G W hM hB).mono ?_
  rintro e w' ⟨bz, rfl, -, k2, -, k3⟩
  exact ⟨bz, rfl, k2, k3, h.trans (k3.mono h.size)⟩
theorem two_rows {W : World} {D F : Option Addr} {cd cf : Nat} {a b : List Int} (h1 : IntS W W.heap.size D a) (h2 : IntS W W.heap.size F b) :
    IntSS (W.alloc (.cells #[.slice D a.length cd, .slice F b.length cf] 27)) (W.alloc (.cells #[.slice D a.length cd, .slice F b.length cf] 27)).heap.size (some ⟨W.heap.size, 0, none⟩) [a, b] := fun _ => by
  have hb : Below W.heap.size W (W.alloc (.cells #[.slice D a.length cd, .slice F b.length cf] 27)) := (Below.refl _ _).alloc (Nat.le_refl _) _
  have hB := Blk.new W 27 #[.slice D a.length cd, .slice F b.length cf]
  refine ⟨W.heap.size, 0, rfl, by simp, fun i r hr => ?_⟩
  match i, hr with
  | 0, hr =>
    simp at hr
    subst hr
    exact ⟨D, cd, by rw [hB.cell]; rfl, h1.up_ hb⟩
  | 1, hr =>
    simp at hr
    subst hr
    exact ⟨F, cf, by rw [hB.cell]; rfl, h2.up_ hb⟩
  | i + 2, hr => simp at hr
theorem one_row {W : World} {D : Option Addr} {cd : Nat} {a : List Int} (h1 : IntS W W.heap.size D a) :
    IntSS (W.alloc (.cells #[.slice D a.length cd] 27)) (W.alloc (.cells #[.slice D a.length cd] 27)).heap.size (some ⟨W.heap.size, 0, none⟩) [a] := fun _ => by
  have hb : Below W.heap.size W (W.alloc (.cells #[.slice D a.length cd] 27)) := (Below.refl _ _).alloc (Nat.le_refl _) _
  have hB := Blk.new W 27 #[.slice D a.length cd]
  refine ⟨W.heap.size, 0, rfl, by simp, fun i r hr => ?_⟩
  match i, hr with
  | 0, hr =>
    simp at hr
    subst hr
    exact ⟨D, cd, by rw [hB.cell]; rfl, h1.up_ hb⟩
  | i + 1, hr => simp at hr
theorem alloc_below (W : World) (o : Obj) : Below W.heap.size W (W.alloc o) := (Below.refl _ _).alloc (Nat.le_refl _) _
set_option maxRecDepth 100000 in
set_option maxHeartbeats 4000000 in
theorem implSumC (N : Int) (A D F : Option Addr) (c cd cf : Nat) (es : List (Int × Int)) (a b : List Int) (w : World) (hn : es.length ≤ 1048576) (ha : a.length ≤ 1048576) (hb : b.length ≤ 1048576) (hE : EdgeS w w.heap.size A es) (hS : IntS w w.heap.size D a) (hT : IntS w w.heap.size F b) :
    Calls Try.prog 24 #[.agg #[.int .i64 N, .slice A es.length c], .slice D a.length cd, .slice F b.length cf] w (GivesIntsOk w (sumC N es a b) (zeroB N es a && zeroB N es b)) := by
  have HE := Lib.hid hE
  have HS := Lib.hid hS
  have HT := Lib.hid hT
  have G0 := GB.start w N A c es
  have HD := fun w h1 h2 => Lib.hid (hasZero_any N A D c cd es a w hn ha h1 h2)
  have HF := fun w h1 h2 => Lib.hid (hasZero_any N A F c cf es b w hn hb h1 h2)
  cases h1 : zeroB N es a with
  | false =>
    rw [h1] at HD
    rw [sumC_f (by rw [h1]; rfl), Bool.false_and]
    clear h1 HF hE hS hT
    go_enter Try.func24, Try.ntmps24
    go_wp2_with fail
    refine (HD _ (HE.out.up_ G0.old) (HS.out.up_ G0.old)).out.mono ?_
    rintro e w1 ⟨rfl, hb1⟩
    have G1 := Lib.hid (G0.next hb1)
    clear G0 hb1
    go_wp2
    go_ret2
    exact ⟨none, 0, rfl, OwnI.nil _ _ _, G1.out.old⟩
  | true =>
    rw [h1] at HD
    cases h2 : zeroB N es b with
    | false =>
      rw [h2] at HF
      rw [sumC_f (by rw [h1, h2]; rfl), Bool.and_false]
      clear h1 h2 hE hS hT
      go_enter Try.func24, Try.ntmps24
      go_wp2_with fail
      refine (HD _ (HE.out.up_ G0.old) (HS.out.up_ G0.old)).out.mono ?_
      rintro e w1 ⟨rfl, hb1⟩
      have G1 := Lib.hid (G0.next hb1)
      have c0 := G1.out.c0
      have c1 := G1.out.c1
      clear G0 hb1
      go_wp2_with fail
      refine (HF _ (HE.out.up_ G1.out.old) (HT.out.up_ G1.out.old)).out.mono ?_
      rintro e w2 ⟨rfl, hb2⟩
      have G2 := Lib.hid (G1.out.next hb2)
      clear hb2 c0 c1
      go_wp2
      go_ret2
      exact ⟨none, 0, rfl, OwnI.nil _ _ _, G2.out.old⟩
    | true =>
      rw [h2] at HF
      obtain ⟨m, rfl, -, hG, hz⟩ := zero_parts h1
      obtain ⟨m', hm', -, -, hz2⟩ := zero_parts h2
      obtain rfl : m' = m := by omega
      rw [sumC_t h1 h2, Bool.true_and]
      have hgx := hG.gx A w hE
      have hM6 : m' + 1 ≤ 6 := by have := hG.m5; omega
      have hfold := fold_two hgx hz hz2
      have PS := Lib.hid (show ∀ (G : Nat) (Z T : Option Addr) (cz ct : Nat) (W : World), w.heap.size ≤ W.heap.size → Adr W (m' + 1) es A c G → OwnI W w.heap.size Z (List.replicate (m' + 1) 0) → IntSS W W.heap.size T [a, b] →
          Calls Try.prog 69 #[.func (.func 116) #[] #[.pointer (some ⟨G, 0, none⟩)], .slice Z (m' + 1) cz, .slice T 2 ct] W fun e w' => ∃ (A2 : Option Addr) (c2 : Nat), e = .returned (.slice A2 (m' + 1) c2) ∧ OwnI w' w.heap.size A2 (rdc (m' + 1) es (plusL (m' + 1) a b)) ∧ Below W.heap.size W w' from fun G Z T cz ct W hB k1 k2 k3 => by
        rw [← hfold]
        exact sumOf_any hG hgx A T Z c ct cz G w.heap.size _ [a, b] W ZerL.none (fun t ht => by simp at ht; rcases ht with rfl | rfl <;> assumption) (by simp) k1 k2 k3 hB)
      have hrl := rdc_len (m' + 1) es (plusL (m' + 1) a b)
      obtain ⟨R, hRR⟩ : ∃ x, x = rdc (m' + 1) es (plusL (m' + 1) a b) := ⟨_, rfl⟩
      rw [← hRR] at PS hrl ⊢
      have HRL := Lib.hid hrl
      clear h1 h2 hE hS hT hm' hz hz2 hG hgx hfold hRR hrl hn ha hb
      generalize m' + 1 = M at *
      go_enter Try.func24, Try.ntmps24
      go_wp2_with fail
      refine (HD _ (HE.out.up_ G0.old) (HS.out.up_ G0.old)).out.mono ?_
      rintro e w1 ⟨rfl, hb1⟩
      have G1 := Lib.hid (G0.next hb1)
      have c0 := G1.out.c0
      have c1 := G1.out.c1
      clear G0 hb1
      go_wp2_with fail
      refine (HF _ (HE.out.up_ G1.out.old) (HT.out.up_ G1.out.old)).out.mono ?_
      rintro e w2 ⟨rfl, hb2⟩
      have G2 := Lib.hid (G1.out.next hb2)
      clear hb2 c0 c1
      have c0 := G2.out.c0
      have c1 := G2.out.c1
      have HP0 := Lib.hid (show w2.drew.cell? ⟨w.heap.size, 0, none⟩ = some (.int .i64 (M : Int)) ∧ w2.drew.cell? ⟨w.heap.size, 1, none⟩ = some (.slice A es.length c) ∧ Below w2.heap.size w2 w2.drew from ⟨c0, c1, (Below.refl _ _).drew⟩)
      have PA := Lib.hid (fun (W : World) (h : Below w2.heap.size w2 W) => adder_newB M A c es w2 W h (HE.out.up_ (G2.out.next h).old))
      have PZ := Lib.hid (fun (W : World) (h : Below w2.heap.size w2 W) => zero_newB M w.heap.size (.slice A es.length c) w2 W h hM6 (G2.out.next h).old.size)
      have PB := Lib.hid (fun (W : World) (h : Below w2.heap.size w2 W) => two_rows (cd := cd) (cf := cf) (HS.out.up_ (G2.out.next h).old) (HT.out.up_ (G2.out.next h).old))
      have PL := Lib.hid (fun (W : World) (h : Below w2.heap.size w2 W) => (G2.out.next h).old.size)
      go_wp2_with fail
      go_region_held3 (fun w' => w'.cell? ⟨w.heap.size, 0, none⟩ = some (.int .i64 (M : Int)) ∧ w'.cell? ⟨w.heap.size, 1, none⟩ = some (.slice A es.length c) ∧ Below w2.heap.size w2 w')
        (first
          | with_reducible exact HP0.out
          | with_reducible exact keepG (by assumption) hba
          | with_reducible exact keepG (by assumption) hbz
          | with_reducible exact keepG (by assumption) hbs
          | exact keepG (by assumption) (alloc_below _ _))
        (first
          | (go_at_call 70; refine (PA.out _ (And.right (And.right (by assumption)))).mono ?_; rintro e wa ⟨Ga, rfl, had, hba, hwa⟩)
          | (go_at_call 71; refine (PZ.out _ (And.right (And.right (by assumption)))).mono ?_; rintro e wz ⟨bz, rfl, hoz, hbz, hwz⟩)
          | (go_at_call 69; refine (PS.out _ _ _ _ _ _ (PL.out _ (And.right (And.right (by assumption)))) (by first | with_reducible exact had.next hbz | with_reducible exact (had.next hbz).next (alloc_below _ _) | exact (had.next (alloc_below _ _)).next hbz) (by first | with_reducible exact hoz | exact hoz.below (alloc_below _ _)) (by first | with_reducible exact PB.out _ hwz | with_reducible exact (PB.out _ hwa).up_ hbz | exact ((PB.out _ HP0.out.2.2).up_ hba).up_ hbz)).mono ?_; rintro e ws ⟨As, cs, rfl, hos, hbs⟩))
      all_goals
        have hb3 : Below w2.heap.size w2 ws := And.right (And.right (by assumption))
        have G3 := Lib.hid (G2.out.next hb3)
        have HO3 := Lib.hid hos
        clear hba hbz hbs had hoz hos hb3 hwa hwz c0 c1
        go_wp2
        go_ret2
        exact ⟨As, cs, by rw [HRL.out]; rfl, HO3.out, G3.out.old⟩
end Go.Proofs.Ytmehdngibbilaaa
