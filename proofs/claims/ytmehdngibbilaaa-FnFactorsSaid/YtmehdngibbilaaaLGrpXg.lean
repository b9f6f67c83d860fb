/- The critical group: the program's OrderOf and DifferenceClass. -/
import Derived.Test.YtmehdngibbilaaaLGrpXe
import Derived.Test.YtmehdngibbilaaaLBQ
import Derived.Test.YtmehdngibbilaaaLBJ
import Derived.Test.YtmehdngibbilaaaLRepI
namespace Go.Proofs.Ytmehdngibbilaaa
open Go.RowKit

set_option maxRecDepth 100000 in
set_option maxHeartbeats 4000000 in
theorem implOrdC (N : Int) (A D : Option Addr) (c cd : Nat) (es : List (Int × Int)) (a : List Int) (w : World) (hn : es.length ≤ 1048576) (ha : a.length ≤ 1048576) (hE : EdgeS w w.heap.size A es) (hS : IntS w w.heap.size D a) :
    Calls Try.prog 30 #[.agg #[.int .i64 N, .slice A es.length c], .slice D a.length cd] w fun e w' => e = .returned (.int .i64 (ordC N es a)) ∧ Below w.heap.size w w' := by
  have HE := Lib.hid hE
  have HS := Lib.hid hS
  have G0 := GB.start w N A c es
  have HD := fun w h1 h2 => Lib.hid (hasZero_any N A D c cd es a w hn ha h1 h2)
  cases h1 : zeroB N es a with
  | false =>
    rw [h1] at HD
    rw [ordC_f h1]
    clear h1 hE hS
    go_enter Try.func30, Try.ntmps30
    go_wp2_with fail
    refine (HD _ (HE.out.up_ G0.old) (HS.out.up_ G0.old)).out.mono ?_
    rintro e w1 ⟨rfl, hb1⟩
    have G1 := Lib.hid (G0.next hb1)
    have c0 := G1.out.c0
    have c1 := G1.out.c1
    clear G0 hb1
    go_wp2
    go_ret
    exact ⟨rfl, G1.out.old⟩
  | true =>
    rw [h1] at HD
    obtain ⟨m, rfl, -, hG, hz⟩ := zero_parts h1
    rw [ordC_t h1]
    have hgx := hG.gx A w hE
    have hzr := hz.redZ hgx
    obtain ⟨ht1, htz⟩ := ord_at hG hgx hz
    obtain ⟨hio, hle, -⟩ := ord_is hG hz
    have hn0 := hio.1
    have hds := det_small hG
    have hfold := fold_one hgx hz
    have hall := ItR.all hgx hzr.lim hzr.sum
    have PS := Lib.hid (show ∀ (G : Nat) (Z T : Option Addr) (cz ct : Nat) (W : World), w.heap.size ≤ W.heap.size → Adr W (m + 1) es A c G → OwnI W w.heap.size Z (List.replicate (m + 1) 0) → IntSS W W.heap.size T [a] →
        Calls Try.prog 69 #[.func (.func 116) #[] #[.pointer (some ⟨G, 0, none⟩)], .slice Z (m + 1) cz, .slice T 1 ct] W fun e w' => ∃ (A2 : Option Addr) (c2 : Nat), e = .returned (.slice A2 (m + 1) c2) ∧ OwnI w' w.heap.size A2 (rdc (m + 1) es a) ∧ Below W.heap.size W w' from fun G Z T cz ct W hB k1 k2 k3 => by
      rw [← hfold]
      exact sumOf_any hG hgx A T Z c ct cz G w.heap.size _ [a] W ZerL.none (fun t ht => by simp at ht; subst ht; assumption) (by simp) k1 k2 k3 hB)
    obtain ⟨n, hnn⟩ : ∃ k : Nat, k = ordN m es (gt a) := ⟨_, rfl⟩
    rw [← hnn] at htz hn0 hle ⊢
    obtain ⟨SS, hSS⟩ : ∃ x, x = rdc (m + 1) es a := ⟨_, rfl⟩
    rw [← hSS] at hzr ht1 htz hall PS
    obtain ⟨T, hT⟩ : ∃ x, x = itR (m + 1) es SS := ⟨_, rfl⟩
    rw [← hT] at ht1 htz hall
    have HTL := Lib.hid (show ∀ k, (T k).length = m + 1 from fun k => (hall k).red.len)
    have HAD := Lib.hid (show ∀ (k : Nat) (X : Option Addr) (cx : Nat) (Y : Option Addr) (cy G : Nat) (W : World), Adr W (m + 1) es A c G → IntS W W.heap.size X (T k) → IntS W W.heap.size Y SS → Calls Try.prog 116 #[.slice X (m + 1) cx, .slice Y (m + 1) cy, .pointer (some ⟨G, 0, none⟩)] W (fun e w' => ∃ (A2 : Option Addr) (c2 : Nat), e = .returned (.slice A2 (m + 1) c2) ∧ OwnI w' W.heap.size A2 (T (k + 1)) ∧ Below W.heap.size W w') from fun k X cx Y cy G W k1 k2 k3 => by
      have e : T (k + 1) = rdc (m + 1) es (plusL (m + 1) (T k) SS) := by rw [hT]; rfl
      rw [e]
      exact adder_any hG A X Y c cx cy G W ⟨HTL.out k, hzr.len, fun u => by have := (hall k).lim u; omega, fun u => by have := hzr.lim u; omega⟩ k1 k2 k3)
    have HSD := Lib.hid (show ∀ (k : Nat) (X : Option Addr) (cx : Nat) (Y : Option Addr) (cy : Nat) (W : World), 1 ≤ k → k ≤ n → IntS W W.heap.size X (T k) → IntS W W.heap.size Y (List.replicate (m + 1) 0) → Calls Try.prog 78 #[.slice X (m + 1) cx, .slice Y (m + 1) cy] W (fun e w' => e = .returned (.bool (decide (k = n))) ∧ Below W.heap.size W w') from fun k X cx Y cy W h1 h2 h3 h4 => by
      have h := implSameD X Y cx cy (T k) (List.replicate (m + 1) 0) W (by rw [HTL.out]; have := hG.m5; omega) (by simp; have := hG.m5; omega) h3 h4
      rw [HTL.out, List.length_replicate, decide_eq_decide.2 (htz k h1 h2)] at h
      exact h)
    have HT1 := Lib.hid ht1
    have hn9 : n ≤ 7500000000000000000 := by omega
    have hM6 : m + 1 ≤ 6 := by have := hG.m5; omega
    clear h1 hE hS hz hzr hG hgx hSS hT hnn hn ha ht1 htz hio hle hds hfold hall
    generalize m + 1 = K at *
    go_enter Try.func30, Try.ntmps30
    go_wp2_with fail
    refine (HD _ (HE.out.up_ G0.old) (HS.out.up_ G0.old)).out.mono ?_
    rintro e w1 ⟨rfl, hb1⟩
    have G1 := Lib.hid (G0.next hb1)
    have c0 := G1.out.c0
    have c1 := G1.out.c1
    clear G0 hb1
    have HP0 := Lib.hid (show w1.drew.cell? ⟨w.heap.size, 0, none⟩ = some (.int .i64 (K : Int)) ∧ w1.drew.cell? ⟨w.heap.size, 1, none⟩ = some (.slice A es.length c) ∧ Below w1.heap.size w1 w1.drew from ⟨c0, c1, (Below.refl _ _).drew⟩)
    have PA := Lib.hid (fun (W : World) (h : Below w1.heap.size w1 W) => adder_newB K A c es w1 W h (HE.out.up_ (G1.out.next h).old))
    have PZ := Lib.hid (fun (W : World) (h : Below w1.heap.size w1 W) => zero_newB K w.heap.size (.slice A es.length c) w1 W h hM6 (G1.out.next h).old.size)
    go_wp2_with fail
    go_region_held3 (fun w' => w'.cell? ⟨w.heap.size, 0, none⟩ = some (.int .i64 (K : Int)) ∧ w'.cell? ⟨w.heap.size, 1, none⟩ = some (.slice A es.length c) ∧ Below w1.heap.size w1 w')
      (first
        | with_reducible exact HP0.out
        | with_reducible exact keepG (by assumption) hba
        | with_reducible exact keepG (by assumption) hbz)
      (first
        | (go_at_call 70; refine (PA.out _ (And.right (And.right (by assumption)))).mono ?_; rintro e wa ⟨Ga, rfl, had, hba, hwa⟩)
        | (go_at_call 71; refine (PZ.out _ (And.right (And.right (by assumption)))).mono ?_; rintro e wz ⟨bz, rfl, hoz, hbz, hwz⟩))
    have G3 := Lib.hid (G1.out.next hwz)
    have HA3 := Lib.hid (had.next hbz)
    have HZ3 := Lib.hid hoz
    clear hba hbz hwa hwz had hoz c0 c1 HP0 PA PZ
    have HSS3 := Lib.hid (one_row (cd := cd) (HS.out.up_ G3.out.old))
    have HAB := Lib.hid (alloc_below wz (.cells #[.slice D a.length cd] 27))
    have hs3 := G3.out.lt
    go_wp2_with fail
    refine (PS.out _ _ _ _ _ _ (Nat.le_trans G3.out.old.size HAB.out.size) (HA3.out.next HAB.out) (HZ3.out.below HAB.out) HSS3.out).mono ?_
    rintro e w4 ⟨A4, c4, rfl, ho4, hb4⟩
    have HB4 := Lib.hid (HAB.out.trans (hb4.mono HAB.out.size))
    have G4 := Lib.hid (G3.out.next HB4.out)
    have HA4 := Lib.hid (HA3.out.next HB4.out)
    have HZ4 := Lib.hid (HZ3.out.below HB4.out)
    have HO4 := Lib.hid ho4
    clear hb4 ho4 HAB HSS3 HZ3 HA3 hs3 HB4
    go_wp2
    go_loopw [8, 9] (fun i v wr => ∃ (k c9 : Nat) (A9 : Option Addr), 1 ≤ k ∧ k ≤ n ∧ i = .int .i64 k ∧ v = .slice A9 K c9 ∧ GB w wr (K : Int) A c es ∧ Adr wr K es A c Ga ∧ OwnI wr w.heap.size A9 (T k) ∧ OwnI wr w.heap.size A4 SS ∧ OwnI wr w.heap.size (some ⟨bz, 0, none⟩) (List.replicate K 0)) (fun i _ _ => n - (intOf i).toNat)
    case atStart => exact ⟨1, c4, A4, Nat.le_refl _, hn0, rfl, rfl, G4.out, HA4.out, by rw [HT1.out]; exact HO4.out, HO4.out, HZ4.out⟩
    case round =>
      clear G4 HA4 HZ4 HO4 HT1
      obtain ⟨k, c9, A9, hj1, hjn, rfl, rfl, hg, had, ho, hs, hzz⟩ := hrel
      have G6 := Lib.hid hg
      have HA := Lib.hid had
      have HO := Lib.hid ho
      have HSS := Lib.hid hs
      have HZ := Lib.hid hzz
      clear hg ho hs hzz had
      have hji : (0 : Int) ≤ (k : Int) := Int.natCast_nonneg _
      have HSD2 := HSD.out k A9 c9 (some ⟨bz, 0, none⟩) K wr hj1 hjn HO.out.ints HZ.out.ints
      by_cases hlt : k = n
      · rw [decide_eq_true hlt] at HSD2
        go_wp2_with fail
        refine HSD2.mono ?_
        rintro e w7 ⟨rfl, hb7⟩
        have G7 := Lib.hid (G6.out.next hb7)
        clear hb7 HSD2
        subst hlt
        go_wp2
        go_ret
        exact ⟨rfl, G7.out.old⟩
      · rw [decide_eq_false hlt] at HSD2
        go_wp2_with fail
        refine HSD2.mono ?_
        rintro e w7 ⟨rfl, hb7⟩
        have G7 := Lib.hid (G6.out.next hb7)
        have HA7 := Lib.hid (HA.out.next hb7)
        have HO7 := Lib.hid (HO.out.below hb7)
        have HSS7 := Lib.hid (HSS.out.below hb7)
        have HZ7 := Lib.hid (HZ.out.below hb7)
        clear hb7 HSD2 HO HSS HZ HA
        have HAD2 := HAD.out k A9 c9 A4 c4 Ga w7 HA7.out HO7.out.ints HSS7.out.ints
        go_wp2_with fail
        refine HAD2.mono ?_
        rintro e w8 ⟨A8, c8, rfl, ho8, hb8⟩
        have G8 := Lib.hid (G7.out.next hb8)
        have HA8 := Lib.hid (HA7.out.next hb8)
        have HO8 := Lib.hid (ho8.mono G7.out.old.size)
        have HSS8 := Lib.hid (HSS7.out.below hb8)
        have HZ8 := Lib.hid (HZ7.out.below hb8)
        clear hb8 ho8 HAD2 HSS7 HZ7 HO7 HA7
        go_wp2
        exact ⟨⟨k + 1, c8, A8, by omega, by omega, by go_num, rfl, G8.out, HA8.out, HO8.out, HSS8.out, HZ8.out⟩, by simp [intOf]; omega⟩
end Go.Proofs.Ytmehdngibbilaaa
