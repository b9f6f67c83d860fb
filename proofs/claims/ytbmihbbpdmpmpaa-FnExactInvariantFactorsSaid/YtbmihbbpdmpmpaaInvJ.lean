/- The program's InvariantFactors, whole. -/
import Derived.Test.YtbmihbbpdmpmpaaInvI
namespace Go.Proofs.Ytbmihbbpdmpmpaa
open Go.RowKit

theorem divsB_le {rs : List (List Int)} (h6 : rs.length ≤ 6) (h : ∀ r ∈ rs, r.length = rs.length ∧ ∀ x ∈ r, -500 ≤ x ∧ x ≤ 500) : ∀ d ∈ divsB rs, d ≤ 7500000000000000000 := fun d hd => by
  simp only [divsB, List.mem_map, List.mem_range] at hd
  obtain ⟨k, hk, rfl⟩ := hd
  refine gcdL_le _ _ (Nat.zero_le _) (fun x hx => ?_)
  simp only [List.mem_flatMap, List.mem_map] at hx
  obtain ⟨R, hR, C, hC, rfl⟩ := hx
  have h1 := ((sets_size rs.length h6 (k + 1) (by omega)).2 R hR).1
  have h2 := ((sets_size rs.length h6 (k + 1) (by omega)).2 C hC).1
  have h3 := det_in h (R := R) (C := C) (by omega) (by omega)
  unfold absB at h3
  omega
theorem fac_break {F P Gs : List Nat} {b j : Nat} (h : F = P ++ facB b (Gs.drop j)) (hg : Gs[j]? = some 0) : F = P ++ List.replicate (Gs.length - j) 0 := by
  obtain ⟨hj, hg2⟩ := List.getElem?_eq_some_iff.1 hg
  rw [h, List.drop_eq_getElem_cons hj, hg2, facB, if_pos (.inr rfl), facB_zero, List.length_drop]
  have : Gs.length - j = (Gs.length - (j + 1)) + 1 := by omega
  rw [this, List.replicate_succ]
theorem put_next {P : List Nat} {n x : Nat} (h : P.length < n) : (P ++ List.replicate (n - P.length) 0).set P.length x = (P ++ [x]) ++ List.replicate (n - (P.length + 1)) 0 := by
  have : n - P.length = (n - (P.length + 1)) + 1 := by omega
  rw [List.set_append_right _ _ (Nat.le_refl _), Nat.sub_self, this, List.replicate_succ]
  simp
set_option maxRecDepth 100000 in
set_option maxHeartbeats 4000000 in
theorem implInv_yes (A : Option Addr) (c : Nat) (rs : List (List Int)) (w : World) (hc : rs.length ≤ c) (hB : matB rs = true) (hS : IntSS w w.heap.size A rs) :
    Calls Try.prog 30 #[.slice A rs.length c] w (GivesInts w (natI (facB 1 (divsB rs)))) := by
  obtain ⟨h6, hent⟩ := matB_entries hB
  have hmk := make_ints rs.length (by omega)
  have HM := Lib.hid (implMatrixOk A c rs w (by omega) (fun r hr => by have := (hent r hr).1; omega) hS)
  rw [hB] at HM
  have HMD := fun w h => Lib.hid (minorDivisors_any A c rs w hc h6 hent h)
  have HS := Lib.hid hS
  have HLE := Lib.hid (divsB_le h6 hent)
  have hDL := divsB_len rs
  obtain ⟨Gs, hGs⟩ : ∃ Gs, Gs = divsB rs := ⟨_, rfl⟩
  rw [← hGs] at HMD HLE hDL ⊢
  obtain ⟨F, hF⟩ : ∃ F, F = facB 1 Gs := ⟨_, rfl⟩
  have HF := Lib.hid hF
  have HFL := Lib.hid (show F.length = rs.length by rw [hF, facB_len, hDL])
  rw [← hF]
  obtain ⟨n, hn⟩ : ∃ n, n = rs.length := ⟨_, rfl⟩
  rw [← hn] at HM HMD hDL h6 hmk HFL ⊢
  have HDL := Lib.hid hDL
  have HRZ := Lib.hid (show intCells (List.replicate n 0) = intCells (natI ([] ++ List.replicate (n - 0) 0)) by simp [natI])
  have HNL := Lib.hid (natI_len Gs)
  clear hB hent hS hGs hF hn hDL
  go_enter Try.func30, Try.ntmps30
  go_wp2_with fail
  refine HM.out.mono ?_
  rintro e w1 ⟨rfl, hb1⟩
  have hs1 := hb1.size
  have hb2 : Below w.heap.size w (w1.alloc (Obj.cells (intCells (List.replicate n 0)).toArray 3)) := hb1.alloc hs1 _
  have hk2 := Blk.new w1 3 (intCells (List.replicate n 0)).toArray
  rw [HRZ.out] at hk2 hb2
  have HK2 := Lib.hid hk2
  have HB2 := Lib.hid hb2
  obtain ⟨fb, hfb⟩ : ∃ fb, fb = w1.heap.size := ⟨_, rfl⟩
  rw [← hfb] at HK2
  have hfb1 : w.heap.size ≤ fb := by omega
  clear hb1 hb2 hk2
  go_wp2_with fail
  rw [HRZ.out, ← hfb]
  obtain ⟨w2, hw2⟩ : ∃ w2, w2 = w1.alloc (Obj.cells (intCells (natI ([] ++ List.replicate (n - 0) 0))).toArray 3) := ⟨_, rfl⟩
  rw [← hw2] at HK2 HB2 ⊢
  have hfl := HK2.out.lt
  clear hw2 hfb
  refine (HMD _ (HS.out.up_ HB2.out)).out.mono ?_
  rintro e w3 ⟨A3, c3, rfl, ho3, hb3⟩
  rw [HNL.out, HDL.out]
  have HO3 := Lib.hid ho3
  have HK3 := Lib.hid (HK2.out.below hb3 hfl)
  have hs3 := hb3.size
  have HB3 := Lib.hid (HB2.out.trans (hb3.mono HB2.out.size))
  clear ho3 hb3
  go_wp2_with fail
  go_loopw [4, 16] (fun bv iv wr => ∃ (k b : Nat) (P : List Nat), k ≤ n ∧ iv = .int .i64 k ∧ bv = .int .i64 (b : Int) ∧ 1 ≤ b ∧ b ≤ 7500000000000000000 ∧ P.length = k ∧ F = P ++ facB b (Gs.drop k) ∧ Blk wr fb 3 (intCells (natI (P ++ List.replicate (n - k) 0))).toArray ∧ Moves fb (fb + 1) w3 wr) (fun _ iv _ => n - (intOf iv).toNat)
  case atStart => exact ⟨0, 1, [], Nat.zero_le _, rfl, rfl, by omega, by omega, rfl, by rw [HF.out]; rfl, HK3.out, Moves.refl _ _ _⟩
  case round =>
    obtain ⟨k, b, P, hk, rfl, rfl, hb0, hb1, hP, hFP, hbk, hmv⟩ := hrel
    have HP := Lib.hid hP
    have HFP := Lib.hid hFP
    have HBK := Lib.hid hbk
    have HMV := Lib.hid hmv
    have HBW := Lib.hid (belowMoves HB3.out hmv hfb1 HB3.out.size)
    have hcell : ∀ (x : Nat), (P ++ List.replicate (n - k) 0)[k]? = some x → wr.cell? ⟨fb, k, none⟩ = some (.int .i64 (x : Int)) := fun x hx => blk_get hbk (natI_at hx)
    have hfr := hbk.frozen k
    clear hFP hbk hmv
    by_cases hlt : k < n
    · obtain ⟨d, hd⟩ : ∃ d, Gs[k]? = some d := ⟨_, List.getElem?_eq_getElem (by rw [HDL.out]; exact hlt)⟩
      obtain ⟨b9, o9, rfl, hb91, hb92, hc9⟩ := HO3.out (by rw [HNL.out, HDL.out]; omega)
      have hcd := (hc9 k _ (natI_at hd)).1
      have hcd2 : wr.cell? ⟨b9, o9 + k, none⟩ = some (.int .i64 (d : Int)) := (World.cell?_of_block (a := ⟨b9, o9 + k, none⟩) (HMV.out.block b9 (by omega) (by omega))).trans hcd
      have hk0 : (0 : Int) ≤ (k : Int) := Int.natCast_nonneg _
      have hk1 : (k : Int) < (n : Int) := by omega
      have hdle := HLE.out d (List.mem_of_getElem? hd)
      have hck : wr.cell? ⟨fb, k, none⟩ = some (.int .i64 ((0 : Nat) : Int)) := hcell 0 (by
        rw [List.getElem?_append_right (by omega), hP, Nat.sub_self, show n - k = (n - k - 1) + 1 by omega, List.replicate_succ]
        rfl)
      have HD := Lib.hid hd
      clear hcell hcd hc9 hd hP
      by_cases hd0 : d = 0
      · have t1 : ((d : Int) == 0) = true := by simp [hd0]
        have hg0 := HD.out
        rw [hd0] at hg0
        have hfin := fac_break HFP.out hg0
        rw [HDL.out] at hfin
        have HFIN := Lib.hid hfin
        have HLL := Lib.hid (natI_len F)
        clear hd0 hg0 hfin
        go_wp2
        go_ret
        exact ⟨some ⟨fb, 0, none⟩, n, by rw [HLL.out, HFL.out]; rfl, by rw [HFIN.out]; exact OwnI.of_blk HBK.out hfb1, HBW.out⟩
      · have t1 : ((d : Int) == 0) = false := by simp [hd0]
        have hbz : ¬ (b : Int) = 0 := by omega
        have hbp : (1 : Int) ≤ (b : Int) := by omega
        have hdp : (0 : Int) ≤ (d : Int) := by omega
        have hdp2 : (d : Int) ≤ 7500000000000000000 := by omega
        obtain ⟨hq1, hq2⟩ := IntWalk.tdiv_le (d : Int) (b : Int) hdp hbp
        have HDV := Lib.hid (show (d : Int) / (b : Int) = ((d / b : Nat) : Int) by omega)
        have HFN := Lib.hid (fac_step HFP.out HD.out (by omega) hd0)
        have hset := HBK.out.set_ k (.int .i64 ((d : Int) / (b : Int)))
        have hpn := put_next (P := P) (n := n) (x := d / b) (by rw [HP.out]; exact hlt)
        rw [HP.out] at hpn
        rw [List.setIfInBounds_toArray, HDV.out, natI_set, hpn] at hset
        rw [← HDV.out] at hset
        have HSET := Lib.hid hset
        have HMN := Lib.hid (HMV.out.set_ k (.int .i64 ((d : Int) / (b : Int))))
        have HPN := Lib.hid (show (P ++ [d / b]).length = k + 1 by rw [List.length_append, HP.out]; rfl)
        have hdpos : 1 ≤ d := by omega
        clear hset hpn hd0
        go_wp2
        exact ⟨⟨k + 1, d, P ++ [d / b], by omega, by go_num, rfl, hdpos, hdle, HPN.out, HFN.out, HSET.out, HMN.out⟩, by simp [intOf]; omega⟩
    · have HE := Lib.hid (fac_end HFP.out (by rw [HDL.out]; omega))
      have hbk := HBK.out
      rw [show n - k = 0 by omega, List.replicate_zero, List.append_nil, ← HE.out] at hbk
      have HBF := Lib.hid hbk
      have HLL := Lib.hid (natI_len F)
      clear hbk hcell hP
      go_wp2
      go_ret
      exact ⟨some ⟨fb, 0, none⟩, n, by rw [HLL.out, HFL.out]; rfl, OwnI.of_blk HBF.out hfb1, HBW.out⟩
theorem implInv_no (A : Option Addr) (c : Nat) (rs : List (List Int)) (w : World) (hn : rs.length ≤ 1048576) (hl : ∀ r ∈ rs, r.length ≤ 1048576) (hB : matB rs = false) (hS : IntSS w w.heap.size A rs) :
    Calls Try.prog 30 #[.slice A rs.length c] w (GivesInts w []) := by
  have HM := Lib.hid (implMatrixOk A c rs w (by omega) (fun r hr => by have := hl r hr; omega) hS)
  rw [hB] at HM
  clear hB hS hl
  go_enter Try.func30, Try.ntmps30
  go_wp2_with fail
  refine HM.out.mono ?_
  rintro e w1 ⟨rfl, hb1⟩
  go_wp2
  go_ret
  exact ⟨none, 0, rfl, OwnI.nil _ _ _, hb1⟩
theorem implInv (A : Option Addr) (c : Nat) (rs : List (List Int)) (w : World) (hc : rs.length ≤ c) (hn : rs.length ≤ 1048576) (hl : ∀ r ∈ rs, r.length ≤ 1048576) (hS : IntSS w w.heap.size A rs) :
    Calls Try.prog 30 #[.slice A rs.length c] w (GivesInts w (invB rs)) := by
  cases h : matB rs with
  | false => rw [invB_f h]; exact implInv_no A c rs w hn hl h hS
  | true => rw [invB_t h]; exact implInv_yes A c rs w hc h hS
theorem specInv (A : Option Addr) (c : Nat) (rs : List (List Int)) (w : World) (hn : rs.length ≤ 1048576) (hl : ∀ r ∈ rs, r.length ≤ 1048576) (hS : IntSS w w.heap.size A rs) :
    Calls Try.prog 28 #[.slice A rs.length c] w (GivesInts w (invB rs)) := by
  cases h : matB rs with
  | false => rw [invB_f h]; exact specInv_no A c rs w hn hl h hS
  | true => rw [invB_t h]; exact specInv_yes A c rs w h hS
end Go.Proofs.Ytbmihbbpdmpmpaa
