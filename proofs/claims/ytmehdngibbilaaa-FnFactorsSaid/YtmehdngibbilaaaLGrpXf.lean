/- The critical group: the program's TimesClass and InverseClass. -/
import Derived.Test.YtmehdngibbilaaaLGrpXe
import Derived.Test.YtmehdngibbilaaaLBQ
import Derived.Test.YtmehdngibbilaaaLBF
namespace Go.Proofs.Ytmehdngibbilaaa
open Go.RowKit

theorem within_in {x : Int} : within 1000 x = inB x (-1000) 1000 := by
  unfold within inB
  rw [Bool.eq_iff_iff]
theorem timesOf_new {m : Nat} {es : List (Int × Int)} (hG : GrL m es) (hx : Gx m es) (A D Z : Option Addr) (c cd cz G B : Nat) (a : List Int) (n : Nat) (W : World) (ha : ZerL m a) (hn : n < 1024) (hA : Adr W (m + 1) es A c G) (hZ : OwnI W B Z (List.replicate (m + 1) 0)) (hS : IntS W W.heap.size D a) (hB : B ≤ W.heap.size) :
    Calls Try.prog 83 #[.func (.func 116) #[] #[.pointer (some ⟨G, 0, none⟩)], .slice Z (m + 1) cz, .slice D a.length cd, .int .i64 (n : Int)] W fun e w' => ∃ (A2 : Option Addr) (c2 : Nat), e = .returned (.slice A2 (m + 1) c2) ∧ OwnI w' B A2 (itR (m + 1) es (rdc (m + 1) es a) n) ∧ Below W.heap.size W w' := by
  have h := timesOf_any hG hx A D Z c cd cz G B _ a n W ZerL.none ha hn hA hZ hS hB
  rw [bits_it hx ha hn] at h
  rw [ha.len]
  exact h
set_option maxRecDepth 100000 in
set_option maxHeartbeats 4000000 in
theorem implTimesC (N : Int) (A D : Option Addr) (c cd : Nat) (es : List (Int × Int)) (a : List Int) (x : Int) (w : World) (hn : es.length ≤ 1048576) (ha : a.length ≤ 1048576) (hE : EdgeS w w.heap.size A es) (hS : IntS w w.heap.size D a) :
    Calls Try.prog 32 #[.agg #[.int .i64 N, .slice A es.length c], .slice D a.length cd, .int .i64 x] w (GivesIntsOk w (timesC N es a x) (timesOk N es a x)) := by
  have HE := Lib.hid hE
  have HS := Lib.hid hS
  have G0 := GB.start w N A c es
  have HD := fun w h1 h2 => Lib.hid (hasZero_any N A D c cd es a w hn ha h1 h2)
  cases h1 : zeroB N es a with
  | false =>
    rw [h1] at HD
    have h0 : timesOk N es a x = false := by rw [timesOk, h1]; rfl
    rw [timesC_f h0, h0]
    clear h1 hE hS h0
    go_enter Try.func32, Try.ntmps32
    go_wp2_with fail
    refine (HD _ (HE.out.up_ G0.old) (HS.out.up_ G0.old)).out.mono ?_
    rintro e w1 ⟨rfl, hb1⟩
    have G1 := Lib.hid (G0.next hb1)
    have c0 := G1.out.c0
    have c1 := G1.out.c1
    clear G0 hb1
    go_wp2
    go_ret2
    exact ⟨none, 0, rfl, OwnI.nil _ _ _, G1.out.old⟩
  | true =>
    rw [h1] at HD
    have HV := fun w => Lib.hid (isBeyond_any x 1000 w (by omega) (by omega))
    cases h2 : inB x (-1000) 1000 with
    | false =>
      rw [within_in, h2] at HV
      have h0 : timesOk N es a x = false := by rw [timesOk, h1, h2]; rfl
      rw [timesC_f h0, h0]
      clear h1 h2 hE hS h0
      go_enter Try.func32, Try.ntmps32
      go_wp2_with fail
      refine (HD _ (HE.out.up_ G0.old) (HS.out.up_ G0.old)).out.mono ?_
      rintro e w1 ⟨rfl, hb1⟩
      have G1 := Lib.hid (G0.next hb1)
      have c0 := G1.out.c0
      have c1 := G1.out.c1
      clear G0 hb1
      go_wp2_with fail
      refine (HV _).out.mono ?_
      rintro e w' ⟨rfl, rfl⟩
      go_wp2
      go_ret2
      exact ⟨none, 0, rfl, OwnI.nil _ _ _, G1.out.old⟩
    | true =>
      rw [within_in, h2] at HV
      have h0 : timesOk N es a x = true := by rw [timesOk, h1, h2]; rfl
      have hx : -1000 ≤ x ∧ x ≤ 1000 := by simpa [inB] using h2
      obtain ⟨m, rfl, -, hG, hz⟩ := zero_parts h1
      rw [timesC_t h0, h0]
      have hgx := hG.gx A w hE
      have hM6 : m + 1 ≤ 6 := by have := hG.m5; omega
      obtain ⟨n, hnn⟩ : ∃ k : Nat, k = x.natAbs := ⟨_, rfl⟩
      have hn2 : n < 1024 := by omega
      by_cases hneg : x < 0
      · rw [sign_neg hneg]
        have hzs : ZerL m (negB a) := hz.neg
        have PS := Lib.hid (fun (G : Nat) (Z X : Option Addr) (cz cx : Nat) (W : World) (hB : w.heap.size ≤ W.heap.size) k1 k2 k3 => timesOf_new hG hgx A X Z c cx cz G w.heap.size (negB a) n W hzs hn2 k1 k2 k3 hB)
        have hrl := (show (itR (m + 1) es (rdc (m + 1) es (negB a)) n).length = m + 1 from (ItR.all hgx (hzs.redZ hgx).lim (hzs.redZ hgx).sum n).red.len)
        obtain ⟨R, hRR⟩ : ∃ q, q = itR (m + 1) es (rdc (m + 1) es (negB a)) n := ⟨_, rfl⟩
        rw [← hRR] at PS hrl
        rw [← hnn, ← hRR]
        have HRL := Lib.hid hrl
        have HNG := Lib.hid (fun (W : World) (h : IntS W W.heap.size D a) => implNeg D cd a W ha h)
        obtain ⟨B1, hB1⟩ : ∃ q, q = negB a := ⟨_, rfl⟩
        rw [← hB1] at PS HNG
        obtain rfl : x = -(n : Int) := by omega
        have hn1 : (0 : Int) ≤ (n : Int) := Int.natCast_nonneg _
        have hn3 : (n : Int) ≤ 1000 := by omega
        have hnn1 : IntKind.i64.wrap (-(-(n : Int))) = (n : Int) := by rw [IntKind.wrap_i64]; omega
        clear h0 h1 h2 hE hS hz hzs hG hgx hRR hrl hnn hn ha hB1
        generalize m + 1 = K at *
        go_enter Try.func32, Try.ntmps32
        go_wp2_with fail
        refine (HD _ (HE.out.up_ G0.old) (HS.out.up_ G0.old)).out.mono ?_
        rintro e w1 ⟨rfl, hb1⟩
        have G1 := Lib.hid (G0.next hb1)
        have c0 := G1.out.c0
        have c1 := G1.out.c1
        clear G0 hb1
        go_wp2_with fail
        refine (HV _).out.mono ?_
        rintro e w' ⟨rfl, rfl⟩
        go_wp2_with fail
        refine (HNG.out _ (HS.out.up_ G1.out.old)).mono ?_
        rintro e w2 ⟨A2, c2, rfl, ho2, hb2⟩
        have G2 := Lib.hid (G1.out.next hb2)
        have HX := Lib.hid ho2.ints
        clear hb2 ho2 c0 c1
        have c0 := G2.out.c0
        have c1 := G2.out.c1
        have HP0 := Lib.hid (show w2.drew.cell? ⟨w.heap.size, 0, none⟩ = some (.int .i64 (K : Int)) ∧ w2.drew.cell? ⟨w.heap.size, 1, none⟩ = some (.slice A es.length c) ∧ Below w2.heap.size w2 w2.drew from ⟨c0, c1, (Below.refl _ _).drew⟩)
        have PA := Lib.hid (fun (W : World) (h : Below w2.heap.size w2 W) => adder_newB K A c es w2 W h (HE.out.up_ (G2.out.next h).old))
        have PZ := Lib.hid (fun (W : World) (h : Below w2.heap.size w2 W) => zero_newB K w.heap.size (.slice A es.length c) w2 W h hM6 (G2.out.next h).old.size)
        have PX := Lib.hid (fun (W : World) (h : Below w2.heap.size w2 W) => HX.out.up_ h)
        have PL := Lib.hid (fun (W : World) (h : Below w2.heap.size w2 W) => (G2.out.next h).old.size)
        go_wp2_with fail
        go_region_held3 (fun w' => w'.cell? ⟨w.heap.size, 0, none⟩ = some (.int .i64 (K : Int)) ∧ w'.cell? ⟨w.heap.size, 1, none⟩ = some (.slice A es.length c) ∧ Below w2.heap.size w2 w')
          (first
            | with_reducible exact HP0.out
            | with_reducible exact keepG (by assumption) hba
            | with_reducible exact keepG (by assumption) hbz
            | with_reducible exact keepG (by assumption) hbs)
          (first
            | (go_at_call 70; refine (PA.out _ (And.right (And.right (by assumption)))).mono ?_; rintro e wa ⟨Ga, rfl, had, hba, hwa⟩)
            | (go_at_call 71; refine (PZ.out _ (And.right (And.right (by assumption)))).mono ?_; rintro e wz ⟨bz, rfl, hoz, hbz, hwz⟩)
            | (go_at_call 83; refine (PS.out _ _ _ _ _ _ (PL.out _ (And.right (And.right (by assumption)))) (had.next hbz) hoz (PX.out _ (And.right (And.right (by assumption))))).mono ?_; rintro e ws ⟨As, cs, rfl, hos, hbs⟩))
        all_goals
          have hb3 : Below w2.heap.size w2 ws := And.right (And.right (by assumption))
          have G3 := Lib.hid (G2.out.next hb3)
          have HO3 := Lib.hid hos
          clear hba hbz hbs had hoz hos hb3 hwa hwz c0 c1
          go_wp2
          go_ret2
          exact ⟨As, cs, by rw [HRL.out]; rfl, HO3.out, G3.out.old⟩
      · rw [sign_pos hneg]
        have hzs : ZerL m a := hz
        have PS := Lib.hid (fun (G : Nat) (Z X : Option Addr) (cz cx : Nat) (W : World) (hB : w.heap.size ≤ W.heap.size) k1 k2 k3 => timesOf_new hG hgx A X Z c cx cz G w.heap.size (a) n W hzs hn2 k1 k2 k3 hB)
        have hrl := (show (itR (m + 1) es (rdc (m + 1) es (a)) n).length = m + 1 from (ItR.all hgx (hzs.redZ hgx).lim (hzs.redZ hgx).sum n).red.len)
        obtain ⟨R, hRR⟩ : ∃ q, q = itR (m + 1) es (rdc (m + 1) es (a)) n := ⟨_, rfl⟩
        rw [← hRR] at PS hrl
        rw [← hnn, ← hRR]
        have HRL := Lib.hid hrl
        obtain rfl : x = (n : Int) := by omega
        have hn1 : (0 : Int) ≤ (n : Int) := Int.natCast_nonneg _
        have hn3 : (n : Int) ≤ 1000 := by omega
        clear h0 h1 h2 hE hS hz hzs hG hgx hRR hrl hnn hn ha
        generalize m + 1 = K at *
        go_enter Try.func32, Try.ntmps32
        go_wp2_with fail
        refine (HD _ (HE.out.up_ G0.old) (HS.out.up_ G0.old)).out.mono ?_
        rintro e w1 ⟨rfl, hb1⟩
        have G1 := Lib.hid (G0.next hb1)
        have c0 := G1.out.c0
        have c1 := G1.out.c1
        clear G0 hb1
        go_wp2_with fail
        refine (HV _).out.mono ?_
        rintro e w' ⟨rfl, rfl⟩
        have HX := Lib.hid (HS.out.up_ G1.out.old)
        have HP0 := Lib.hid (show w1.drew.cell? ⟨w.heap.size, 0, none⟩ = some (.int .i64 (K : Int)) ∧ w1.drew.cell? ⟨w.heap.size, 1, none⟩ = some (.slice A es.length c) ∧ Below w1.heap.size w1 w1.drew from ⟨c0, c1, (Below.refl _ _).drew⟩)
        have PA := Lib.hid (fun (W : World) (h : Below w1.heap.size w1 W) => adder_newB K A c es w1 W h (HE.out.up_ (G1.out.next h).old))
        have PZ := Lib.hid (fun (W : World) (h : Below w1.heap.size w1 W) => zero_newB K w.heap.size (.slice A es.length c) w1 W h hM6 (G1.out.next h).old.size)
        have PX := Lib.hid (fun (W : World) (h : Below w1.heap.size w1 W) => HX.out.up_ h)
        have PL := Lib.hid (fun (W : World) (h : Below w1.heap.size w1 W) => (G1.out.next h).old.size)
        go_wp2_with fail
        go_region_held3 (fun w' => w'.cell? ⟨w.heap.size, 0, none⟩ = some (.int .i64 (K : Int)) ∧ w'.cell? ⟨w.heap.size, 1, none⟩ = some (.slice A es.length c) ∧ Below w1.heap.size w1 w')
          (first
            | with_reducible exact HP0.out
            | with_reducible exact keepG (by assumption) hba
            | with_reducible exact keepG (by assumption) hbz
            | with_reducible exact keepG (by assumption) hbs)
          (first
            | (go_at_call 70; refine (PA.out _ (And.right (And.right (by assumption)))).mono ?_; rintro e wa ⟨Ga, rfl, had, hba, hwa⟩)
            | (go_at_call 71; refine (PZ.out _ (And.right (And.right (by assumption)))).mono ?_; rintro e wz ⟨bz, rfl, hoz, hbz, hwz⟩)
            | (go_at_call 83; refine (PS.out _ _ _ _ _ _ (PL.out _ (And.right (And.right (by assumption)))) (had.next hbz) hoz (PX.out _ (And.right (And.right (by assumption))))).mono ?_; rintro e ws ⟨As, cs, rfl, hos, hbs⟩))
        all_goals
          have hb3 : Below w1.heap.size w1 ws := And.right (And.right (by assumption))
          have G3 := Lib.hid (G1.out.next hb3)
          have HO3 := Lib.hid hos
          clear hba hbz hbs had hoz hos hb3 hwa hwz c0 c1
          go_wp2
          go_ret2
          exact ⟨As, cs, by rw [HRL.out]; rfl, HO3.out, G3.out.old⟩
theorem inv_times {N : Int} {es : List (Int × Int)} {a : List Int} {w : World} {A : Option Addr} (hE : EdgeS w w.heap.size A es) : timesC N es a (-1) = invC N es a ∧ timesOk N es a (-1) = zeroB N es a := by
  have e : timesOk N es a (-1) = zeroB N es a := by
    have : inB (-1) (-1000) 1000 = true := by decide
    rw [timesOk, this, Bool.and_true]
  refine ⟨?_, e⟩
  cases h : zeroB N es a with
  | false => rw [timesC_f (e.trans h), invC_f h]
  | true =>
    obtain ⟨m, rfl, -, hG, hz⟩ := zero_parts h
    rw [timesC_t (e.trans h), invC_t h, sign_neg (by decide)]
    exact (ord_at hG (hG.gx A w hE) hz.neg).1
theorem implIvC (N : Int) (A D : Option Addr) (c cd : Nat) (es : List (Int × Int)) (a : List Int) (w : World) (hn : es.length ≤ 1048576) (ha : a.length ≤ 1048576) (hE : EdgeS w w.heap.size A es) (hS : IntS w w.heap.size D a) :
    Calls Try.prog 25 #[.agg #[.int .i64 N, .slice A es.length c], .slice D a.length cd] w (GivesIntsOk w (invC N es a) (zeroB N es a)) := by
  have HE := Lib.hid hE
  have HS := Lib.hid hS
  have G0 := GB.start w N A c es
  have HD := fun w h1 h2 => Lib.hid (implTimesC N A D c cd es a (-1) w hn ha h1 h2)
  obtain ⟨e1, e2⟩ := inv_times (N := N) (a := a) hE
  rw [e1, e2] at HD
  obtain ⟨R, hR⟩ : ∃ q, q = invC N es a := ⟨_, rfl⟩
  obtain ⟨b, hb⟩ : ∃ q, q = zeroB N es a := ⟨_, rfl⟩
  rw [← hR, ← hb] at HD ⊢
  clear hE hS e1 e2 hR hb hn ha
  go_enter Try.func25, Try.ntmps25
  go_wp2_with fail
  refine (HD _ (HE.out.up_ G0.old) (HS.out.up_ G0.old)).out.mono ?_
  rintro e w1 ⟨A1, c1, rfl, ho, hb1⟩
  have G1 := Lib.hid (G0.next hb1)
  have HO := Lib.hid (ho.mono G0.old.size)
  clear G0 hb1 ho
  go_wp2
  go_ret2
  exact ⟨A1, c1, rfl, HO.out, G1.out.old⟩
end Go.Proofs.Ytmehdngibbilaaa
