/- The specification's InvariantFactors. -/
import Derived.Test.YtbmihbbpdmpmpaaSets
import Derived.Test.YtbmihbbpdmpmpaaGcd
import Derived.Test.YtbmihbbpdmpmpaaBD
namespace Go.Proofs.Ytbmihbbpdmpmpaa
open Go.RowKit

theorem gcd_le_of {a b B : Nat} (ha : a ≤ B) (hb : b ≤ B) : Nat.gcd a b ≤ B := by
  rcases Nat.eq_zero_or_pos a with h | h
  · rw [h, Nat.gcd_zero_left]; exact hb
  · exact Nat.le_trans (Nat.gcd_le_left b h) ha
theorem gcdL_le {B : Nat} : ∀ (l : List Int) (g : Nat), g ≤ B → (∀ x ∈ l, x.natAbs ≤ B) → gcdL g l ≤ B
  | [], _, hg, _ => hg
  | x :: l, g, hg, h => by
    rw [gcdL]
    exact gcdL_le l _ (gcd_le_of hg (h x (by simp))) (fun y hy => h y (by simp [hy]))
theorem gcdL_snoc (l : List Int) (x : Int) (g : Nat) : gcdL g (l ++ [x]) = Int.gcd (gcdL g l : Nat) x := by
  rw [gcdL_append]
  rfl
/-- the row of that number, as a function of the column -/
def rowAt (rs : List (List Int)) (i : Nat) : Nat → Int := rowF (rs.getD i [])
theorem rowAt_in {rs : List (List Int)} (h : ∀ r ∈ rs, r.length = rs.length ∧ ∀ x ∈ r, -500 ≤ x ∧ x ≤ 500) (i c : Nat) : in5 (rowAt rs i c) := by
  unfold rowAt rowF in5
  simp only [List.getD]
  cases hr : rs[i]? with
  | none => simp
  | some r =>
    simp only [Option.getD_some]
    cases hx : r[c]? with
    | none => simp
    | some x => exact (h r (List.mem_of_getElem? hr)).2 x (List.mem_of_getElem? hx)
theorem det_in {rs : List (List Int)} (h : ∀ r ∈ rs, r.length = rs.length ∧ ∀ x ∈ r, -500 ≤ x ∧ x ≤ 500) {R C : List Nat} (hR : R.length ≤ 6) (hC : C.length = R.length) : absB 7500000000000000000 (detF (R.map (rowAt rs)) C) :=
  det_bound _ _ (by simpa using hR) (by simpa using hC) (fun r hr c => by
    simp only [List.mem_map] at hr
    obtain ⟨i, _, rfl⟩ := hr
    exact rowAt_in h i c)
/-- the divisors by sets -/
def divsB (rs : List (List Int)) : List Nat := (List.range rs.length).map fun k => gSets rs.length (rowAt rs) (k + 1)
theorem divsB_len (rs : List (List Int)) : (divsB rs).length = rs.length := by simp [divsB]
theorem divsB_at {rs : List (List Int)} {k : Nat} (h : k < rs.length) : (divsB rs)[k]? = some (gSets rs.length (rowAt rs) (k + 1)) := by simp [divsB, h]
def invB (rs : List (List Int)) : List Int := if matB rs = true then natI (facB 1 (divsB rs)) else []
theorem invB_t {rs : List (List Int)} (h : matB rs = true) : invB rs = natI (facB 1 (divsB rs)) := by rw [invB, if_pos h]
theorem invB_f {rs : List (List Int)} (h : matB rs = false) : invB rs = [] := by rw [invB, if_neg (by rw [h]; decide)]
theorem invB_len {rs : List (List Int)} (hn : rs.length ≤ 1048576) : (invB rs).length ≤ 1048576 := by
  unfold invB
  split
  · rw [natI_len, facB_len, divsB_len]; exact hn
  · simp
theorem fac_zero {F P Gs : List Nat} {b j g : Nat} (h : F = P ++ facB b (Gs.drop j)) (hg : Gs[j]? = some g) (h0 : b = 0 ∨ g = 0) : F = (P ++ [0]) ++ facB 0 (Gs.drop (j + 1)) := by
  obtain ⟨hj, rfl⟩ := List.getElem?_eq_some_iff.1 hg
  rw [h, List.drop_eq_getElem_cons hj, facB, if_pos h0]
  simp
theorem fac_step {F P Gs : List Nat} {b j g : Nat} (h : F = P ++ facB b (Gs.drop j)) (hg : Gs[j]? = some g) (h0 : b ≠ 0) (h1 : g ≠ 0) : F = (P ++ [g / b]) ++ facB g (Gs.drop (j + 1)) := by
  obtain ⟨hj, rfl⟩ := List.getElem?_eq_some_iff.1 hg
  rw [h, List.drop_eq_getElem_cons hj, facB, if_neg (by omega)]
  simp
theorem fac_end {F P Gs : List Nat} {b j : Nat} (h : F = P ++ facB b (Gs.drop j)) (hj : Gs.length ≤ j) : F = P := by
  rw [h, List.drop_of_length_le hj, facB, List.append_nil]
theorem natI_snoc (P : List Nat) (x : Nat) : intCells (natI P) ++ [.int .i64 (x : Int)] = intCells (natI (P ++ [x])) := by simp [intCells, natI]
/-- the divisor after a sets of rows, and after b sets of columns of the next one -/
def gTo (SS : List (List Nat)) (d : List Nat → List Nat → Int) (a : Nat) : Nat := gcdL 0 ((SS.take a).flatMap fun R => SS.map (d R))
def gTo2 (SS : List (List Nat)) (d : List Nat → List Nat → Int) (a : Nat) (R : List Nat) (b : Nat) : Nat := gcdL (gTo SS d a) ((SS.take b).map (d R))
theorem gTo_step {SS : List (List Nat)} {d : List Nat → List Nat → Int} {a : Nat} {R : List Nat} (h : SS[a]? = some R) : gTo SS d (a + 1) = gTo2 SS d a R SS.length := by
  rw [gTo, List.take_add_one, h, Option.toList_some, List.flatMap_append, gcdL_append, gTo2, List.take_length, gTo]
  simp
theorem gTo2_step {SS : List (List Nat)} {d : List Nat → List Nat → Int} {a b : Nat} {R C : List Nat} (h : SS[b]? = some C) : (gTo2 SS d a R (b + 1) : Nat) = Int.gcd (gTo2 SS d a R b : Nat) (d R C) := by
  rw [gTo2, List.take_add_one, h, Option.toList_some, List.map_append, List.map_singleton, gcdL_snoc]
  rfl
theorem gTo2_zero {SS : List (List Nat)} {d : List Nat → List Nat → Int} {a : Nat} {R : List Nat} : gTo2 SS d a R 0 = gTo SS d a := by simp [gTo2, gcdL]
theorem gTo_le {SS : List (List Nat)} {d : List Nat → List Nat → Int} {B : Nat} (h : ∀ R ∈ SS, ∀ C ∈ SS, (d R C).natAbs ≤ B) (a : Nat) : gTo SS d a ≤ B :=
  gcdL_le _ _ (Nat.zero_le _) (fun x hx => by
    simp only [List.mem_flatMap, List.mem_map] at hx
    obtain ⟨R, hR, C, hC, rfl⟩ := hx
    exact h R (List.mem_of_mem_take hR) C hC)
theorem gTo2_le {SS : List (List Nat)} {d : List Nat → List Nat → Int} {B : Nat} (h : ∀ R ∈ SS, ∀ C ∈ SS, (d R C).natAbs ≤ B) (a : Nat) {R : List Nat} (hR : R ∈ SS) (b : Nat) : gTo2 SS d a R b ≤ B :=
  gcdL_le _ _ (gTo_le h a) (fun x hx => by
    simp only [List.mem_map] at hx
    obtain ⟨C, hC, rfl⟩ := hx
    exact h R hR C (List.mem_of_mem_take hC))
theorem gTo_all {n k : Nat} {f : Nat → Nat → Int} : gTo (setsB n k) (fun R C => detF (R.map f) C) (setsB n k).length = gSets n f k := by rw [gTo, List.take_length, gSets]

set_option maxRecDepth 100000 in
set_option maxHeartbeats 4000000 in
theorem specInv_yes (A : Option Addr) (c : Nat) (rs : List (List Int)) (w : World) (hB : matB rs = true) (hS : IntSS w w.heap.size A rs) :
    Calls Try.prog 28 #[.slice A rs.length c] w (GivesInts w (natI (facB 1 (divsB rs)))) := by
  obtain ⟨i0, hi, hz0, hz1, hz2⟩ := info_parts intInfo
  obtain ⟨h6, hent⟩ := matB_entries hB
  have HM := Lib.hid (specMatrixOk A c rs w (by omega) (fun r hr => by have := (hent r hr).1; omega) hS)
  rw [hB] at HM
  have HDET := Lib.hid (fun (n : Nat) (R C : List Nat) => l03Det_any rs hent n R C)
  have HIN := Lib.hid (fun (R C : List Nat) h1 h2 => det_in hent (R := R) (C := C) h1 h2)
  have HS := Lib.hid hS
  have HDV := Lib.hid (fun k h => divsB_at (rs := rs) (k := k) h)
  have hDL := divsB_len rs
  obtain ⟨Gs, hGs⟩ : ∃ Gs, Gs = divsB rs := ⟨_, rfl⟩
  rw [← hGs] at HDV hDL ⊢
  obtain ⟨n, hn⟩ : ∃ n, n = rs.length := ⟨_, rfl⟩
  have HN := Lib.hid hn
  rw [← hn] at HM HDET HDV hDL h6 ⊢
  obtain ⟨F, hF⟩ : ∃ F, F = facB 1 Gs := ⟨_, rfl⟩
  have HF := Lib.hid hF
  have HDL := Lib.hid hDL
  have HSETS := fun k (h : k ≤ n) w => Lib.hid (sets_any n h6 k h w)
  have HSZ := Lib.hid (sets_size n h6)
  have HPOS := Lib.hid (sets_pos n h6)
  rw [← hF]
  clear hB hent hS hGs hF hDL hn
  go_enter Try.func28, Try.ntmps28
  go_wp2_with fail
  refine HM.out.mono ?_
  rintro e w' ⟨rfl, rfl⟩
  go_wp2_with fail
  go_loopw [3, 4, 5] (fun v bv kv wr => ∃ (j b : Nat) (P : List Nat), j ≤ n ∧ kv = .int .i64 ((j : Int) + 1) ∧ bv = .int .i64 (b : Int) ∧ b ≤ 7500000000000000000 ∧ P.length = j ∧ F = P ++ facB b (Gs.drop j) ∧ QOwn wr w.heap.size v (natI P) ∧ Below w.heap.size w wr) (fun _ _ kv _ => n + 1 - (intOf kv).toNat)
  case atStart => exact ⟨0, 1, [], Nat.zero_le _, rfl, rfl, by omega, rfl, by rw [HF.out]; rfl, own_emptyD w _ (Nat.le_refl _) _, (Below.refl _ _).alloc (Nat.le_refl _) _⟩
  case round =>
    obtain ⟨j, b, P, hj, rfl, rfl, hb, hP, hFP, hown, hbw⟩ := hrel
    have HP := Lib.hid hP
    have HFP := Lib.hid hFP
    have HO := Lib.hid hown
    have HB := Lib.hid hbw
    have hbs := hbw.size
    clear hP hFP hown hbw
    by_cases hlt : j < n
    · have hj0 : (0 : Int) ≤ (j : Int) := Int.natCast_nonneg _
      have hj1 : (j : Int) + 1 ≤ (n : Int) := by omega
      have hse := HSETS (j + 1) (by omega)
      rw [show ((j + 1 : Nat) : Int) = (j : Int) + 1 by omega] at hse
      obtain ⟨hK20, hmem⟩ := HSZ.out (j + 1) (by omega)
      have HMEM := Lib.hid hmem
      have hpos := HPOS.out (j + 1) (by omega)
      have HGA := Lib.hid (gTo_all (n := n) (k := j + 1) (f := rowAt rs))
      have HGJ := Lib.hid (HDV.out j hlt)
      have HBD : Hid (∀ R ∈ setsB n (j + 1), ∀ C ∈ setsB n (j + 1), ((fun R C => detF (R.map (rowAt rs)) C) R C).natAbs ≤ 7500000000000000000) := Lib.hid (fun R hR C hC => by
        have h1 := (hmem R hR).1
        have h2 := (hmem C hC).1
        have h3 := HIN.out R C (by omega) (by omega)
        unfold absB at h3
        show (detF (R.map (rowAt rs)) C).natAbs ≤ _
        omega)
      obtain ⟨SS, hSS⟩ : ∃ SS, SS = setsB n (j + 1) := ⟨_, rfl⟩
      rw [← hSS] at hse hK20 HMEM hpos HGA HBD
      obtain ⟨d, hd⟩ : ∃ d : List Nat → List Nat → Int, d = fun R C => detF (R.map (rowAt rs)) C := ⟨_, rfl⟩
      rw [← hd] at HGA HBD
      have HD := Lib.hid (fun R C => show detF (R.map (rowAt rs)) C = d R C by rw [hd])
      clear hmem hSS hd
      go_wp2_with fail
      refine (hse _).out.mono ?_
      rintro e w2 ⟨vL, vsL, rfl, hsV, hpt, hb3⟩
      have hw2 := hb3.size
      obtain ⟨s0, hs0⟩ : ∃ s, SS[0]? = some s := ⟨_, List.getElem?_eq_getElem hpos⟩
      have hat : ∀ a s, SS[a]? = some s → (SS.map natI)[a]? = some (natI s) := fun a s h => by rw [List.getElem?_map, h]; rfl
      obtain ⟨u0, hu0, _⟩ := hpt 0 _ (hat 0 s0 hs0)
      obtain ⟨gL, capL, rfl, _, _⟩ := hsV.cell hu0
      rw [List.length_map] at hsV ⊢
      obtain ⟨K, hK⟩ : ∃ K, K = SS.length := ⟨_, rfl⟩
      rw [← hK] at hsV hK20 hpos HGA ⊢
      have HSV := Lib.hid hsV
      have HPT : Hid (∀ (a : Nat) (s : List Nat), SS[a]? = some s → ∃ b c : Nat, vsL[a]? = some (Value.slice (some ⟨b, 0, none⟩) s.length c) ∧ s.length ≤ c) := Lib.hid (fun a s h => by
        obtain ⟨u, hu, b, c, rfl, hc⟩ := hpt a _ (hat a s h)
        rw [natI_len] at hu hc
        exact ⟨b, c, hu, hc⟩)
      have HAT := Lib.hid hat
      have HO2 := Lib.hid (HO.out.below hb3)
      have HB2 := Lib.hid (HB.out.trans (hb3.mono hbs))
      have HKK := Lib.hid hK
      clear hsV hpt hat hs0 hu0 hb3 hK
      go_wp2_with fail
      go_loopw [6, 28] (fun gv iv wx => ∃ a : Nat, a ≤ K ∧ iv = .int .i64 a ∧ gv = .int .i64 (gTo SS d a : Nat) ∧ Below w2.heap.size w2 wx) (fun _ iv _ => K - (intOf iv).toNat)
      case atStart => exact ⟨0, Nat.zero_le _, rfl, rfl, Below.refl _ _⟩
      case round =>
        obtain ⟨a, ha, rfl, rfl, hbx⟩ := hrel
        have hbxs := hbx.size
        by_cases hlta : a < K
        · obtain ⟨R, hR⟩ : ∃ s, SS[a]? = some s := ⟨_, List.getElem?_eq_getElem (by have := HKK.out; omega)⟩
          obtain ⟨bR, cR, huR, hcR⟩ := HPT.out a R hR
          have hRm := List.mem_of_getElem? hR
          obtain ⟨hR1, hR2, _⟩ := HMEM.out R hRm
          obtain ⟨gL', capL', hv, _, hcellR⟩ := (HSV.out.keep hbx).cell huR
          injection hv with hv1 hv2 hv3
          injection hv1 with hv1
          injection hv1 with hv1
          subst hv1
          clear hv2 hv3
          have ha0 : (0 : Int) ≤ (a : Int) := Int.natCast_nonneg _
          have ha1 : (a : Int) < (K : Int) := by omega
          have hbR := HSV.out.lt (HAT.out a R hR) huR
          have HIR : Hid (IntS w2 w2.heap.size (some ⟨bR, 0, none⟩) (natI R)) := Lib.hid (fun _ => ⟨bR, 0, rfl, hbR, fun i x hx => by rw [Nat.zero_add]; exact HSV.out.ints (HAT.out a R hR) huR i x hx⟩)
          have HRm := Lib.hid hRm
          have HR2 := Lib.hid hR2
          have HR1 := Lib.hid hR1
          have HGS := Lib.hid (gTo_step (d := d) hR)
          have HG0 := Lib.hid (gTo2_zero (SS := SS) (d := d) (a := a) (R := R))
          have hRl6 : R.length ≤ 6 := by omega
          clear hR huR hRm hR1 hR2
          go_wp2_with fail
          go_loopw [6, 34] (fun gv iv wy => ∃ b : Nat, b ≤ K ∧ iv = .int .i64 b ∧ gv = .int .i64 (gTo2 SS d a R b : Nat) ∧ Below w2.heap.size w2 wy) (fun _ iv _ => K - (intOf iv).toNat)
          case atStart => exact ⟨0, Nat.zero_le _, rfl, by rw [HG0.out], hbx⟩
          case round =>
            obtain ⟨b', hb', rfl, rfl, hby⟩ := hrel
            have hbys := hby.size
            by_cases hltb : b' < K
            · obtain ⟨C, hC⟩ : ∃ s, SS[b']? = some s := ⟨_, List.getElem?_eq_getElem (by have := HKK.out; omega)⟩
              obtain ⟨bC, cC, huC, hcC⟩ := HPT.out b' C hC
              have hCm := List.mem_of_getElem? hC
              obtain ⟨hC1, hC2, _⟩ := HMEM.out C hCm
              obtain ⟨gL', capL', hv, _, hcellC⟩ := (HSV.out.keep hby).cell huC
              injection hv with hv1 hv2 hv3
              injection hv1 with hv1
              injection hv1 with hv1
              subst hv1
              clear hv2 hv3
              have hb0 : (0 : Int) ≤ (b' : Int) := Int.natCast_nonneg _
              have hb1 : (b' : Int) < (K : Int) := by omega
              have hbC := HSV.out.lt (HAT.out b' C hC) huC
              have HIC : Hid (IntS w2 w2.heap.size (some ⟨bC, 0, none⟩) (natI C)) := Lib.hid (fun _ => ⟨bC, 0, rfl, hbC, fun i x hx => by rw [Nat.zero_add]; exact HSV.out.ints (HAT.out b' C hC) huC i x hx⟩)
              have hdb := HBD.out R HRm.out C hCm
              have hgb := gTo2_le HBD.out a HRm.out b'
              have HW : Hid (wrap64 (detF (pick rs R) C) = d R C) := Lib.hid (by
                have e : detF (pick rs R) C = d R C := HD.out R C
                rw [e, wrap64_of (by omega) (by omega)])
              have HST := Lib.hid (gTo2_step (d := d) (a := a) (R := R) hC)
              have HDT := fun w h1 h2 h3 => Lib.hid (HDET.out R.length R C rfl hRl6 (by omega) (fun i hi => HR2.out i hi) (fun i hi => hC2 i hi) A (some ⟨bR, 0, none⟩) (some ⟨bC, 0, none⟩) c cR cC w hcR hcC h1 h2 h3)
              rw [HW.out] at HDT
              have HGC := fun w => Lib.hid (l03Gcd_any (gTo2 SS d a R b' : Nat) (d R C) w (by unfold absB; omega) (by unfold absB; omega))
              rw [← HST.out] at HGC
              have HSW := Lib.hid (HS.out.up_ (HB2.out.trans (hby.mono (by omega))))
              have HIRW := Lib.hid (HIR.out.up_ hby)
              have HICW := Lib.hid (HIC.out.up_ hby)
              obtain ⟨dd, hdd⟩ : ∃ dd, dd = d R C := ⟨_, rfl⟩
              rw [← hdd] at HDT HGC
              obtain ⟨gg, hgg⟩ : ∃ gg, gg = gTo2 SS d a R b' := ⟨_, rfl⟩
              rw [← hgg] at HGC ⊢
              clear hC huC hCm hC1 hC2 hdb hgb hdd hgg
              go_wp2_with fail
              refine (HDT _ HSW.out HIRW.out HICW.out).out.mono ?_
              rintro e w6 ⟨rfl, hb6⟩
              have hb7 := hby.trans (hb6.mono hbys)
              clear hb6
              go_wp2_with fail
              refine (HGC _).out.mono ?_
              rintro e w7 ⟨rfl, rfl⟩
              go_wp2
              exact ⟨⟨b' + 1, by omega, by go_num, rfl, hb7⟩, by simp [intOf]; omega⟩
            · have HGE := Lib.hid (show gTo2 SS d a R b' = gTo SS d (a + 1) by rw [HGS.out, ← HKK.out]; congr 1; omega)
              go_wp2
              exact ⟨⟨a + 1, by omega, by go_num, by rw [HGE.out], hby⟩, by simp [intOf]; omega⟩
        · obtain ⟨gg, hgg⟩ : ∃ gg, gg = gTo SS d a := ⟨_, rfl⟩
          have HGG : Hid (Gs[j]? = some gg) := Lib.hid (by rw [HGJ.out, hgg, ← HGA.out]; congr 2; omega)
          have hgb : gg ≤ 7500000000000000000 := by rw [hgg]; exact gTo_le HBD.out a
          rw [← hgg]
          have HO3 := Lib.hid (HO2.out.below hbx)
          have HB3 := Lib.hid (HB2.out.trans (hbx.mono (by omega)))
          have hP6 : P.length ≤ 6 := by have := HP.out; omega
          have hp63 : (natI P).length + 1 ≤ maxLen := by rw [natI_len]; unfold maxLen; omega
          have hp64 : ((natI P).length + 1) * 8 ≤ 140737488355328 := by rw [natI_len]; omega
          obtain ⟨w3, rfl⟩ : ∃ w3, w3 = wr := ⟨_, rfl⟩
          have hs3 := HB3.out.size
          clear hgg hbx
          by_cases hb0 : b = 0
          · have t1 : ((b : Int) == 0) = true := by simp [hb0]
            have HZ := Lib.hid (show b = 0 ∨ gg = 0 from .inl hb0)
            clear hb0
            go_wp2_with (at_builtin; refine wpList_append_own _ rfl _ _ 43 rfl w.heap.size 3 i0 (.int .i64 0) 1 8 Try.underlying43 hi hz0 hz1 hz2 rfl (by decide) _ _ _ rfl (World.ownsRow.alloc HO3.out _) ⟨w3.heap.size, 0, none⟩ 1 1 [.int .i64 ((0 : Nat) : Int)] rfl rfl (one_cell _ _ (by simp) _ _) (fun u hu => by rw [List.mem_singleton] at hu; rw [hu]; rfl) hp63 hp64 (by simp; omega) ?_)
            intro v5 w5 hown5 hgrow5 _
            have HO5 : Hid (QOwn w5 w.heap.size v5 (natI (P ++ [0]))) := Lib.hid (by
              unfold QOwn
              rw [← natI_snoc, natI_len, List.length_append, List.length_singleton, ← natI_len]
              exact hown5)
            have hb5 : Below w.heap.size w w5 := (HB3.out.alloc HB3.out.size (Obj.cells #[.int .i64 ((0 : Nat) : Int)] 3)).grown hgrow5 (by simp; omega) (fun q hq => (World.ownsRow.lt HO3.out q hq).1)
            have HFN := Lib.hid (fac_zero HFP.out HGG.out HZ.out)
            have HPN := Lib.hid (show (P ++ [0]).length = j + 1 by rw [List.length_append, HP.out]; rfl)
            clear hown5 hgrow5
            go_wp2
            exact ⟨⟨j + 1, 0, P ++ [0], by omega, by go_num, rfl, by omega, HPN.out, HFN.out, HO5.out, hb5⟩, by simp [intOf]; omega⟩
          · have t1 : ((b : Int) == 0) = false := by simp [hb0]
            by_cases hg0 : gg = 0
            · have t2 : ((gg : Int) == 0) = true := by simp [hg0]
              have HZ := Lib.hid (show b = 0 ∨ gg = 0 from .inr hg0)
              clear hb0 hg0
              go_wp2_with (at_builtin; refine wpList_append_own _ rfl _ _ 43 rfl w.heap.size 3 i0 (.int .i64 0) 1 8 Try.underlying43 hi hz0 hz1 hz2 rfl (by decide) _ _ _ rfl (World.ownsRow.alloc HO3.out _) ⟨w3.heap.size, 0, none⟩ 1 1 [.int .i64 ((0 : Nat) : Int)] rfl rfl (one_cell _ _ (by simp) _ _) (fun u hu => by rw [List.mem_singleton] at hu; rw [hu]; rfl) hp63 hp64 (by simp; omega) ?_)
              intro v5 w5 hown5 hgrow5 _
              have HO5 : Hid (QOwn w5 w.heap.size v5 (natI (P ++ [0]))) := Lib.hid (by
                unfold QOwn
                rw [← natI_snoc, natI_len, List.length_append, List.length_singleton, ← natI_len]
                exact hown5)
              have hb5 : Below w.heap.size w w5 := (HB3.out.alloc HB3.out.size (Obj.cells #[.int .i64 ((0 : Nat) : Int)] 3)).grown hgrow5 (by simp; omega) (fun q hq => (World.ownsRow.lt HO3.out q hq).1)
              have HFN := Lib.hid (fac_zero HFP.out HGG.out HZ.out)
              have HPN := Lib.hid (show (P ++ [0]).length = j + 1 by rw [List.length_append, HP.out]; rfl)
              clear hown5 hgrow5
              go_wp2
              exact ⟨⟨j + 1, 0, P ++ [0], by omega, by go_num, rfl, by omega, HPN.out, HFN.out, HO5.out, hb5⟩, by simp [intOf]; omega⟩
            · have t2 : ((gg : Int) == 0) = false := by simp [hg0]
              have HNB := Lib.hid hb0
              have HNG := Lib.hid hg0
              have hbp : (1 : Int) ≤ (b : Int) := by omega
              have hbp2 : (b : Int) ≤ 7500000000000000000 := by omega
              have hgp : (0 : Int) ≤ (gg : Int) := by omega
              have hgp2 : (gg : Int) ≤ 7500000000000000000 := by omega
              have hbz : ¬ (b : Int) = 0 := by omega
              obtain ⟨hq1, hq2⟩ := IntWalk.tdiv_le (gg : Int) (b : Int) hgp hbp
              have HDV2 := Lib.hid (show (gg : Int) / (b : Int) = ((gg / b : Nat) : Int) by omega)
              clear hg0
              go_wp2_with (at_builtin; refine wpList_append_own _ rfl _ _ 43 rfl w.heap.size 3 i0 (.int .i64 0) 1 8 Try.underlying43 hi hz0 hz1 hz2 rfl (by decide) _ _ _ rfl (World.ownsRow.alloc HO3.out _) ⟨w3.heap.size, 0, none⟩ 1 1 [.int .i64 ((gg : Int) / (b : Int))] rfl rfl (one_cell _ _ (by simp) _ _) (fun u hu => by rw [List.mem_singleton] at hu; rw [hu]; rfl) hp63 hp64 (by simp; omega) ?_)
              intro v5 w5 hown5 hgrow5 _
              have HO5 : Hid (QOwn w5 w.heap.size v5 (natI (P ++ [gg / b]))) := Lib.hid (by
                unfold QOwn
                rw [← natI_snoc, ← HDV2.out, natI_len, List.length_append, List.length_singleton, ← natI_len]
                exact hown5)
              have hb5 : Below w.heap.size w w5 := (HB3.out.alloc HB3.out.size (Obj.cells #[.int .i64 ((gg : Int) / (b : Int))] 3)).grown hgrow5 (by simp; omega) (fun q hq => (World.ownsRow.lt HO3.out q hq).1)
              have HFN := Lib.hid (fac_step HFP.out HGG.out HNB.out HNG.out)
              have HPN := Lib.hid (show (P ++ [gg / b]).length = j + 1 by rw [List.length_append, HP.out]; rfl)
              clear hown5 hgrow5
              go_wp2
              exact ⟨⟨j + 1, gg, P ++ [gg / b], by omega, by go_num, rfl, by omega, HPN.out, HFN.out, HO5.out, hb5⟩, by simp [intOf]; omega⟩
    · have HE := Lib.hid (fac_end HFP.out (by rw [HDL.out]; omega))
      have hj2 : (n : Int) < (j : Int) + 1 := by omega
      obtain ⟨Ar, cr, rfl⟩ := HO.out.slice
      have HR := Lib.hid (OwnI.of_own HO.out)
      go_wp2
      go_ret
      exact ⟨Ar, cr, by rw [HE.out]; rfl, by rw [HE.out]; exact HR.out, HB.out⟩
theorem specInv_no (A : Option Addr) (c : Nat) (rs : List (List Int)) (w : World) (hn : rs.length ≤ 1048576) (hl : ∀ r ∈ rs, r.length ≤ 1048576) (hB : matB rs = false) (hS : IntSS w w.heap.size A rs) :
    Calls Try.prog 28 #[.slice A rs.length c] w (GivesInts w []) := by
  have HM := Lib.hid (specMatrixOk A c rs w (by omega) (fun r hr => by have := hl r hr; omega) hS)
  rw [hB] at HM
  clear hB hS hl
  go_enter Try.func28, Try.ntmps28
  go_wp2_with fail
  refine HM.out.mono ?_
  rintro e w' ⟨rfl, rfl⟩
  go_wp2
  go_ret
  exact ⟨none, 0, rfl, OwnI.nil _ _ _, Below.refl _ _⟩
end Go.Proofs.Ytbmihbbpdmpmpaa
