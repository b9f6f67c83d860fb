/- IsLegalSet: both sides. -/
import Derived.Test.YtkmbdclhjdbhpaaFSet
import Derived.Test.YtkmbdclhjdbhpaaEff
namespace Go.Proofs.Ytkmbdclhjdbhpaa
open Go.RowKit

noncomputable def legalB (N : Int) (es : List (Int × Int)) (d l : List Int) : Bool := fsetOk N es d l && l.all fun v => posB ((fsetB N es d l).getD v.toNat 0)
theorem legalB_f {N : Int} {es : List (Int × Int)} {d l : List Int} (h : fsetOk N es d l = false) : legalB N es d l = false := by simp [legalB, h]
theorem legalB_t {N : Int} {es : List (Int × Int)} {d l : List Int} (h : fsetOk N es d l = true) : legalB N es d l = l.all fun v => posB ((fsetB N es d l).getD v.toNat 0) := by simp [legalB, h]
theorem all_missP {xs : List Int} {k : Nat} {z : Int} {p : Int → Bool} (he : xs[k]? = some z) (h : p z = false) : xs.all p = false := by
  rw [List.all_eq_false]
  exact ⟨z, List.mem_of_getElem? he, by simp [h]⟩
set_option maxHeartbeats 400000 in
theorem isDebt_t (z : Int) (w : World) (h : z < 0) : Calls Try.prog 51 #[.int .i64 z] w fun e w' => e = .returned (.bool true) ∧ w = w' := by
  have t1 : decide (z < 0) = true := decide_eq_true h
  go_enter Try.func51, Try.ntmps51
  go_wp2
  go_ret
  exact ⟨rfl, rfl⟩
set_option maxHeartbeats 400000 in
theorem isDebt_f (z : Int) (w : World) (h : ¬ z < 0) : Calls Try.prog 51 #[.int .i64 z] w fun e w' => e = .returned (.bool false) ∧ w = w' := by
  have t1 : decide (z < 0) = false := decide_eq_false h
  go_enter Try.func51, Try.ntmps51
  go_wp2
  go_ret
  exact ⟨rfl, rfl⟩

set_option maxHeartbeats 2000000 in
theorem specLeg (N : Int) (A D S : Option Addr) (c cd cs : Nat) (es : List (Int × Int)) (d s : List Int) (w : World) (hn : es.length ≤ 1048576) (hd : d.length ≤ 1048576) (hs : s.length ≤ 1048576) (hE : EdgeS w w.heap.size A es) (hD : IntS w w.heap.size D d) (hS : IntS w w.heap.size S s) :
    Calls Try.prog 43 #[.agg #[.int .i64 N, .slice A es.length c], .slice D d.length cd, .slice S s.length cs] w fun e w' => e = .returned (.bool (legalB N es d s)) ∧ Below w.heap.size w w' := by
  have HE := Lib.hid hE
  have HSD := Lib.hid hD
  have HSS := Lib.hid hS
  clear hE hD hS
  have hb0 : Below w.heap.size w (w.alloc (Obj.cells #[.int .i64 N, .slice A es.length c] 37)) := (Below.refl _ _).alloc (Nat.le_refl _) _
  have HQ := fun w h1 h2 h3 => Lib.hid (specFSet N A D S c cd cs es d s w hn hd hs h1 h2 h3)
  obtain ⟨zs, hzs⟩ : ∃ zs, zs = fsetB N es d s := ⟨_, rfl⟩
  rw [← hzs] at HQ
  cases h1 : fsetOk N es d s with
  | false =>
    rw [h1] at HQ
    rw [legalB_f h1]
    clear h1 hzs
    go_enter Try.func43, Try.ntmps43
    go_wp2_with fail
    refine (HQ _ (HE.out.up_ hb0) (HSD.out.up_ hb0) (HSS.out.up_ hb0)).out.mono ?_
    rintro e w1 ⟨Az, cz, rfl, hoz, hb1⟩
    have hbb : Below w.heap.size w w1 := hb0.trans (hb1.mono hb0.size)
    have HZ := Lib.hid hoz.ints
    clear hb0 hb1 hoz
    go_wp2
    go_ret
    exact ⟨rfl, hbb⟩
  | true =>
    rw [h1] at HQ
    rw [legalB_t h1, ← hzs]
    have h2 := h1
    simp only [fsetOk, Bool.and_eq_true] at h2
    have hlim := div_lims h2.1
    have hzl : (zs.length : Int) = N := by rw [hzs, fsetB_t h1, firedB_len]; omega
    have HV := Lib.hid (setOk_all h2.2).1
    have HZL := Lib.hid hzl
    obtain ⟨P, hP⟩ : ∃ P : Int → Bool, P = fun v => posB (zs.getD v.toNat 0) := ⟨_, rfl⟩
    have HP := Lib.hid (fun v => congrFun hP v)
    rw [← hP]
    clear h1 h2 hzs hzl hP hlim
    go_enter Try.func43, Try.ntmps43
    go_wp2_with fail
    refine (HQ _ (HE.out.up_ hb0) (HSD.out.up_ hb0) (HSS.out.up_ hb0)).out.mono ?_
    rintro e w1 ⟨Az, cz, rfl, hoz, hb1⟩
    have hbb : Below w.heap.size w w1 := hb0.trans (hb1.mono hb0.size)
    have HZ := Lib.hid hoz.ints
    clear hb0 hb1 hoz
    go_wp2_with fail
    go_loop [22] (fun i => ∃ k : Nat, k ≤ s.length ∧ i = .int .i64 k ∧ (s.take k).all P = true) (fun i => s.length - (intOf i).toNat)
    case atStart => exact ⟨0, Nat.zero_le _, rfl, rfl⟩
    case round =>
      obtain ⟨k, hk, rfl, hall⟩ := hrel
      have HA := Lib.hid hall
      clear hall
      by_cases hlt : k < s.length
      · obtain ⟨b1, o1, x, rfl, hb1, he, hc0⟩ := (HSS.out.below hbb).at_ hlt
        have hi0 : (0 : Int) ≤ (k : Int) := Int.natCast_nonneg _
        have hi1 : (k : Int) < (s.length : Int) := by omega
        obtain ⟨hx0, hx1⟩ := HV.out x (List.mem_of_getElem? he)
        obtain ⟨u, rfl⟩ : ∃ u : Nat, x = (u : Int) := ⟨x.toNat, by omega⟩
        have huz : u < zs.length := by have := HZL.out; omega
        have hu1 : (u : Int) < (zs.length : Int) := by omega
        obtain ⟨b2, o2, z, rfl, hb2, hz, hd0⟩ := HZ.out.at_ huz
        have hPz : P (u : Int) = posB z := by rw [HP.out]; simp [List.getD, hz]
        by_cases hneg : z < 0
        · have H := Lib.hid (all_missP (p := P) he (by rw [hPz]; simp [posB]; omega))
          clear he hz hPz
          have t1 : decide (z < 0) = true := decide_eq_true hneg
          go_wp2
          go_ret
          exact ⟨ret_boolE H.out.symm, hbb⟩
        · have H := Lib.hid (allTake_snoc (p := P) HA.out he (by rw [hPz]; simp [posB]; omega))
          clear he hz hPz
          have t1 : decide (z < 0) = false := decide_eq_false hneg
          go_wp2
          exact ⟨⟨k + 1, by omega, by go_num, H.out⟩, by simp [intOf]; omega⟩
      · have H := Lib.hid (allTake_end HA.out (by omega))
        go_wp2
        go_ret
        exact ⟨ret_boolE H.out.symm, hbb⟩

set_option maxHeartbeats 2000000 in
theorem implLeg (N : Int) (A D S : Option Addr) (c cd cs : Nat) (es : List (Int × Int)) (d s : List Int) (w : World) (hn : es.length ≤ 1048576) (hd : d.length ≤ 1048576) (hs : s.length ≤ 1048576) (hE : EdgeS w w.heap.size A es) (hD : IntS w w.heap.size D d) (hS : IntS w w.heap.size S s) :
    Calls Try.prog 44 #[.agg #[.int .i64 N, .slice A es.length c], .slice D d.length cd, .slice S s.length cs] w fun e w' => e = .returned (.bool (legalB N es d s)) ∧ Below w.heap.size w w' := by
  have HE := Lib.hid hE
  have HSD := Lib.hid hD
  have HSS := Lib.hid hS
  clear hE hD hS
  have hb0 : Below w.heap.size w (w.alloc (Obj.cells #[.int .i64 N, .slice A es.length c] 37)) := (Below.refl _ _).alloc (Nat.le_refl _) _
  have HQ := fun w h1 h2 h3 => Lib.hid (implFSet N A D S c cd cs es d s w hn hd hs h1 h2 h3)
  obtain ⟨zs, hzs⟩ : ∃ zs, zs = fsetB N es d s := ⟨_, rfl⟩
  rw [← hzs] at HQ
  cases h1 : fsetOk N es d s with
  | false =>
    rw [h1] at HQ
    rw [legalB_f h1]
    clear h1 hzs
    go_enter Try.func44, Try.ntmps44
    go_wp2_with fail
    refine (HQ _ (HE.out.up_ hb0) (HSD.out.up_ hb0) (HSS.out.up_ hb0)).out.mono ?_
    rintro e w1 ⟨Az, cz, rfl, hoz, hb1⟩
    have hbb : Below w.heap.size w w1 := hb0.trans (hb1.mono hb0.size)
    have HZ := Lib.hid hoz.ints
    clear hb0 hb1 hoz
    go_wp2
    go_ret
    exact ⟨rfl, hbb⟩
  | true =>
    rw [h1] at HQ
    rw [legalB_t h1, ← hzs]
    have h2 := h1
    simp only [fsetOk, Bool.and_eq_true] at h2
    have hlim := div_lims h2.1
    have hzl : (zs.length : Int) = N := by rw [hzs, fsetB_t h1, firedB_len]; omega
    have HV := Lib.hid (setOk_all h2.2).1
    have HZL := Lib.hid hzl
    obtain ⟨P, hP⟩ : ∃ P : Int → Bool, P = fun v => posB (zs.getD v.toNat 0) := ⟨_, rfl⟩
    have HP := Lib.hid (fun v => congrFun hP v)
    rw [← hP]
    clear h1 h2 hzs hzl hP hlim
    go_enter Try.func44, Try.ntmps44
    go_wp2_with fail
    refine (HQ _ (HE.out.up_ hb0) (HSD.out.up_ hb0) (HSS.out.up_ hb0)).out.mono ?_
    rintro e w1 ⟨Az, cz, rfl, hoz, hb1⟩
    have hbb : Below w.heap.size w w1 := hb0.trans (hb1.mono hb0.size)
    have HZ := Lib.hid hoz.ints
    clear hb0 hb1 hoz
    go_wp2_with fail
    go_loop [22] (fun i => ∃ k : Nat, k ≤ s.length ∧ i = .int .i64 k ∧ (s.take k).all P = true) (fun i => s.length - (intOf i).toNat)
    case atStart => exact ⟨0, Nat.zero_le _, rfl, rfl⟩
    case round =>
      obtain ⟨k, hk, rfl, hall⟩ := hrel
      have HA := Lib.hid hall
      clear hall
      by_cases hlt : k < s.length
      · obtain ⟨b1, o1, x, rfl, hb1, he, hc0⟩ := (HSS.out.below hbb).at_ hlt
        have hi0 : (0 : Int) ≤ (k : Int) := Int.natCast_nonneg _
        have hi1 : (k : Int) < (s.length : Int) := by omega
        obtain ⟨hx0, hx1⟩ := HV.out x (List.mem_of_getElem? he)
        obtain ⟨u, rfl⟩ : ∃ u : Nat, x = (u : Int) := ⟨x.toNat, by omega⟩
        have huz : u < zs.length := by have := HZL.out; omega
        have hu1 : (u : Int) < (zs.length : Int) := by omega
        obtain ⟨b2, o2, z, rfl, hb2, hz, hd0⟩ := HZ.out.at_ huz
        have hPz : P (u : Int) = posB z := by rw [HP.out]; simp [List.getD, hz]
        by_cases hneg : z < 0
        · have H := Lib.hid (all_missP (p := P) he (by rw [hPz]; simp [posB]; omega))
          clear he hz hPz
          go_wp2_with fail
          refine (isDebt_t z _ (by omega)).mono ?_
          rintro e w' ⟨rfl, rfl⟩
          go_wp2
          go_ret
          exact ⟨ret_boolE H.out.symm, hbb⟩
        · have H := Lib.hid (allTake_snoc (p := P) HA.out he (by rw [hPz]; simp [posB]; omega))
          clear he hz hPz
          go_wp2_with fail
          refine (isDebt_f z _ (by omega)).mono ?_
          rintro e w' ⟨rfl, rfl⟩
          go_wp2
          exact ⟨⟨k + 1, by omega, by go_num, H.out⟩, by simp [intOf]; omega⟩
      · have H := Lib.hid (allTake_end HA.out (by omega))
        go_wp2
        go_ret
        exact ⟨ret_boolE H.out.symm, hbb⟩
end Go.Proofs.Ytkmbdclhjdbhpaa
