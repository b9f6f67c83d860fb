/- The program's minorDivisors: the walk over the sets of rows. -/
import Derived.Test.YtbmihbbpdmpmpaaInvS
import Derived.Test.YtbmihbbpdmpmpaaMv
import Derived.Deep.RegionHeld3
namespace Go.Proofs.Ytbmihbbpdmpmpaa
open Go.RowKit

/-- the minors of the rows R (the last first), one for each set of columns -/
def vals (n : Nat) (R : List (Nat → Int)) : List Int := (List.range (2 ^ n)).map (minorA n R)
theorem vals_len (n : Nat) (R : List (Nat → Int)) : (vals n R).length = 2 ^ n := by simp [vals]
theorem minorA_in {n S : Nat} {R : List (Nat → Int)} (h6 : R.length ≤ 6) (hR : ∀ r ∈ R, ∀ c, in5 (r c)) : absB 7500000000000000000 (minorA n R S) := by
  unfold minorA
  split
  · rename_i h
    have h1 := det_same R.length R.reverse (bitsN n S) (by simp) h
    rw [List.reverse_reverse] at h1
    rw [← h1]
    exact det_bound _ _ (by simpa using h6) (by simpa using h) (fun r hr => hR r (by simpa using hr))
  · unfold absB; omega
theorem chips_vals {n : Nat} {R : List (Nat → Int)} (h6 : R.length ≤ 6) (hR : ∀ r ∈ R, ∀ c, in5 (r c)) : chipsOf (2 ^ n) (minorA n R) = vals n R := by
  apply List.ext_getElem?
  intro i
  by_cases hi : i < 2 ^ n
  · have hb := minorA_in (n := n) (S := i) h6 hR
    unfold absB at hb
    rw [chipsOf_at _ hi, wrap64_of (by omega) (by omega)]
    simp [vals, hi]
  · rw [List.getElem?_eq_none (by rw [chipsOf_len]; omega), List.getElem?_eq_none (by rw [vals_len]; omega)]
theorem vals_in {n : Nat} {R : List (Nat → Int)} (h6 : R.length ≤ 6) (hR : ∀ r ∈ R, ∀ c, in5 (r c)) : ∀ x ∈ vals n R, x.natAbs ≤ 7500000000000000000 := fun x hx => by
  simp only [vals, List.mem_map] at hx
  obtain ⟨S, _, rfl⟩ := hx
  have hb := minorA_in (n := n) (S := S) h6 hR
  unfold absB at hb
  omega
theorem rowF_in {r : List Int} (h : ∀ x ∈ r, -500 ≤ x ∧ x ≤ 500) (c : Nat) : in5 (rowF r c) := by
  unfold rowF in5
  simp only [List.getD]
  cases hx : r[c]? with
  | none => simp
  | some x => exact h x (List.mem_of_getElem? hx)
/-- the divisors once the minors of one more row are through -/
def afterRow (n size : Nat) (R : List (Nat → Int)) (D : List Nat) : List Nat := D.set size (gcdL (D.getD size 0) (vals n R))
theorem collectF_cons (n size : Nat) (R : List (Nat → Int)) (r : Nat → Int) (rest : List (Nat → Int)) (D : List Nat) : collectF n size R (r :: rest) D = collectF n size R rest (collectF n (size + 1) (r :: R) rest (afterRow n size (r :: R) D)) := by rw [collectF, afterRow, vals]
theorem afterRow_len (n size : Nat) (R : List (Nat → Int)) (D : List Nat) : (afterRow n size R D).length = D.length := by simp [afterRow]
theorem getD_le {D : List Nat} {B : Nat} (h : ∀ d ∈ D, d ≤ B) (i : Nat) : D.getD i 0 ≤ B := by
  simp only [List.getD]
  cases hx : D[i]? with
  | none => simp
  | some x => exact h x (List.mem_of_getElem? hx)
theorem afterRow_le {n size : Nat} {R : List (Nat → Int)} {D : List Nat} (h6 : R.length ≤ 6) (hR : ∀ r ∈ R, ∀ c, in5 (r c)) (hD : ∀ d ∈ D, d ≤ 7500000000000000000) : ∀ d ∈ afterRow n size R D, d ≤ 7500000000000000000 := fun d hd => by
  rcases List.mem_or_eq_of_mem_set hd with h | h
  · exact hD d h
  · rw [h]
    exact gcdL_le _ _ (getD_le hD size) (vals_in h6 hR)
theorem collectF_le {n : Nat} : ∀ (rest : List (Nat → Int)) (size : Nat) (R : List (Nat → Int)) (D : List Nat), R.length + rest.length ≤ 6 → (∀ r ∈ R, ∀ c, in5 (r c)) → (∀ r ∈ rest, ∀ c, in5 (r c)) → (∀ d ∈ D, d ≤ 7500000000000000000) → ∀ d ∈ collectF n size R rest D, d ≤ 7500000000000000000
  | [], _, _, _, _, _, _, hD => hD
  | r :: rest, size, R, D, hl, hR, hr, hD => by
    rw [collectF_cons]
    rw [List.length_cons] at hl
    have hR2 : ∀ r' ∈ r :: R, ∀ c, in5 (r' c) := fun r' h => by
      rcases List.mem_cons.1 h with h | h
      · rw [h]; exact hr r (by simp)
      · exact hR r' h
    have hr2 : ∀ r' ∈ rest, ∀ c, in5 (r' c) := fun r' h => hr r' (by simp [h])
    exact collectF_le rest size R _ (by omega) hR hr2 (collectF_le rest (size + 1) (r :: R) _ (by simp; omega) hR2 hr2 (afterRow_le (by simp; omega) hR2 hD))
/-- the divisors' memory once k minors are through -/
def midRow (size : Nat) (V : List Int) (D : List Nat) (k : Nat) : List Nat := D.set size (gcdL (D.getD size 0) (V.take k))
theorem midRow_zero (size : Nat) (V : List Int) (D : List Nat) (h : size < D.length) : midRow size V D 0 = D := by
  rw [midRow, List.take_zero, gcdL]
  apply List.ext_getElem?
  intro i
  by_cases e : size = i
  · subst e
    rw [List.getElem?_set_self h, List.getD_eq_getElem?_getD, List.getElem?_eq_getElem h, Option.getD_some]
  · rw [List.getElem?_set_ne e]
theorem midRow_at (size : Nat) (V : List Int) (D : List Nat) (k : Nat) (h : size < D.length) : (midRow size V D k)[size]? = some (gcdL (D.getD size 0) (V.take k)) := by rw [midRow, List.getElem?_set_self h]
theorem midRow_step (size : Nat) {V : List Int} (D : List Nat) {k : Nat} {x : Int} (hx : V[k]? = some x) : (midRow size V D k).set size (Int.gcd (gcdL (D.getD size 0) (V.take k) : Nat) x) = midRow size V D (k + 1) := by
  rw [midRow, midRow, List.set_set, List.take_add_one, hx, Option.toList_some, gcdL_snoc]
theorem midRow_all (n size : Nat) (R : List (Nat → Int)) (D : List Nat) {k : Nat} (h : 2 ^ n ≤ k) : midRow size (vals n R) D k = afterRow n size R D := by rw [midRow, afterRow, List.take_of_length_le (by rw [vals_len]; exact h)]
theorem midRow_len (size : Nat) (V : List Int) (D : List Nat) (k : Nat) : (midRow size V D k).length = D.length := by simp [midRow]
theorem natI_set (D : List Nat) (i x : Nat) : (intCells (natI D)).set i (.int .i64 (x : Int)) = intCells (natI (D.set i x)) := by simp [intCells, natI, List.map_set]
def closV (dB cB : Nat) : Value := .func (.func 99) #[] #[.pointer (some ⟨dB, 0, none⟩), .pointer (some ⟨cB, 0, none⟩)]
def Collected (w : World) (dg : Nat) (D : List Nat) (e : Ending) (w' : World) : Prop := e = .returned (.tuple #[]) ∧ Blk w' dg 3 (intCells (natI D)).toArray ∧ Moves dg (dg + 1) w w'
def GivesV (w : World) (K : Nat) (zs : List Int) (e : Ending) (w' : World) : Prop := ∃ (A : Option Addr) (c : Nat), e = .returned (.slice A K c) ∧ OwnI w' w.heap.size A zs ∧ Below w.heap.size w w'
theorem withRow_vals (n : Nat) (A C : Option Addr) (ca cc : Nat) (R : List (Nat → Int)) (row : List Int) (w : World) (hn : n ≤ 6) (h6 : R.length + 1 ≤ 6) (hR : ∀ r ∈ R, ∀ c, in5 (r c)) (hl : row.length = n) (hr : ∀ x ∈ row, -500 ≤ x ∧ x ≤ 500)
    (hS : IntS w w.heap.size A (vals n R)) (hT : IntS w w.heap.size C row) :
    Calls Try.prog 93 #[.slice A (2 ^ n : Nat) ca, .slice C row.length cc] w (GivesV w (2 ^ n) (vals n (rowF row :: R))) := by
  have hR2 : ∀ r' ∈ rowF row :: R, ∀ c, in5 (r' c) := fun r' h => by
    rcases List.mem_cons.1 h with h | h
    · rw [h]; exact rowF_in hr
    · exact hR r' h
  rw [← chips_vals (by omega) hR] at hS
  refine (withRow_any n A C ca cc R row w hn hl hr hS hT).mono fun e w' ⟨A9, c9, he, ho, hb⟩ => ?_
  have e2 : chipsOf (2 ^ n) (minorA n ((fun c => row.getD c 0) :: R)) = vals n (rowF row :: R) := chips_vals (R := rowF row :: R) (by simp; omega) hR2
  rw [e2] at he ho
  exact ⟨A9, c9, by rw [he, vals_len], ho, hb⟩
theorem keepD {w W w2 : World} {p q : Addr} {a b : Value} {f : Bool} (hS : W.cell? p = some a ∧ W.cell? q = some b ∧ W.frozen? q = f ∧ Below w.heap.size w W) (hb : Below W.heap.size W w2) (hp : p.block < w.heap.size) (hq : q.block < w.heap.size) :
    w2.cell? p = some a ∧ w2.cell? q = some b ∧ w2.frozen? q = f ∧ Below w.heap.size w w2 := by
  obtain ⟨h1, h2, h3, h5⟩ := hS
  have hz := h5.size
  exact ⟨(hb.cell (by omega)).trans h1, (hb.cell (by omega)).trans h2, (hb.frozen (by omega)).trans h3, h5.trans (hb.mono hz)⟩
set_option maxRecDepth 100000 in
set_option maxHeartbeats 4000000 in
theorem collect_any (n : Nat) (hn : n ≤ 6) (t : TypeId) (dB dg cB : Nat) (h1 : dB ≠ dg) (h2 : cB ≠ dg) : ∀ (m : Nat) (rest : List (List Int)) (size : Nat) (R : List (Nat → Int)) (D : List Nat) (A B : Option Addr) (ca cb lo base : Nat) (w : World),
    rest.length ≤ m → size + rest.length ≤ n → R.length = size → D.length = n → (∀ d ∈ D, d ≤ 7500000000000000000) → (∀ r ∈ R, ∀ c, in5 (r c)) → (∀ r ∈ rest, r.length = n ∧ ∀ x ∈ r, -500 ≤ x ∧ x ≤ 500) → rest.length ≤ cb → dg < base → lo ≤ dg → lo ≤ w.heap.size →
    OwnI w base A (vals n R) → IntSS w lo B rest → Blk w dB 43 #[.slice (some ⟨dg, 0, none⟩) n n] → Blk w cB t #[closV dB cB] → Blk w dg 3 (intCells (natI D)).toArray →
    Calls Try.prog 99 #[.int .i64 (size : Int), .slice A (2 ^ n : Nat) ca, .slice B rest.length cb, .pointer (some ⟨dB, 0, none⟩), .pointer (some ⟨cB, 0, none⟩)] w (Collected w dg (collectF n size R (rest.map rowF) D)) := by
  intro m
  induction m with
  | zero =>
    intro rest size R D A B ca cb lo base w hm _ _ _ _ _ _ _ _ _ _ _ _ _ _ hbd
    obtain rfl : rest = [] := List.length_eq_zero_iff.1 (by omega)
    have HBD := Lib.hid hbd
    clear hbd hm
    go_enter Try.func99, Try.ntmps99
    go_wp2
    go_loopw [14] (fun iv wr => iv = .int .i64 0 ∧ w = wr) (fun _ _ => 0)
    case atStart => exact ⟨rfl, rfl⟩
    case round =>
      obtain ⟨rfl, rfl⟩ := hrel
      go_wp2
      go_end0
      exact ⟨rfl, HBD.out, Moves.refl _ _ _⟩
  | succ m ih =>
    intro rest size R D A B ca cb lo base w hm hsz hRl hDl hD hR hrest hcb hdg hlo hlow hO hS hbB hbC hbD
    have IH := Lib.hid ih
    have HO := Lib.hid hO
    have HS := Lib.hid hS
    have HBB := Lib.hid hbB
    have HBC := Lib.hid hbC
    have HBD := Lib.hid hbD
    have HREST := Lib.hid hrest
    have HR := Lib.hid hR
    have HD := Lib.hid hD
    have HRL := Lib.hid hRl
    have HDL := Lib.hid hDl
    have hlB := hbB.lt
    have hlC := hbC.lt
    have hlD := hbD.lt
    have HWR := fun A C ca cc row w h1 h2 h3 h4 h5 => Lib.hid (withRow_vals n A C ca cc R row w hn h1 hR h2 h3 h4 h5)
    obtain ⟨K, hK⟩ : ∃ K, K = 2 ^ n := ⟨_, rfl⟩
    have hK64 : K ≤ 64 := by rw [hK]; exact Nat.pow_le_pow_right (by omega) hn
    have HVL := Lib.hid (fun R => (vals_len n R).trans hK.symm)
    have HMA := Lib.hid (fun size R D k (h : K ≤ k) => midRow_all n size R D (k := k) (by rw [← hK]; exact h))
    have HIK := Lib.hid ih
    rw [← hK] at HWR HIK ⊢
    have hsn : size + rest.length ≤ 6 := by omega
    have HRS := Lib.hid (show ∀ r ∈ rest.map rowF, ∀ c, in5 (r c) from fun r hr c => by
      obtain ⟨r0, hr0, rfl⟩ := List.mem_map.1 hr
      exact rowF_in (hrest r0 hr0).2 c)
    clear ih hO hS hbB hbC hbD hrest hR hD hRl hDl hK IH
    go_enter Try.func99, Try.ntmps99
    go_wp2
    go_loopw [14] (fun iv wr => ∃ (i : Nat) (D' : List Nat), i ≤ rest.length ∧ iv = .int .i64 i ∧ D'.length = n ∧ (∀ d ∈ D', d ≤ 7500000000000000000) ∧ collectF n size R (rest.map rowF) D = collectF n size R ((rest.drop i).map rowF) D' ∧ Blk wr dg 3 (intCells (natI D')).toArray ∧ Moves dg (dg + 1) w wr) (fun iv _ => rest.length - (intOf iv).toNat)
    case atStart => exact ⟨0, D, Nat.zero_le _, rfl, HDL.out, HD.out, rfl, HBD.out, Moves.refl _ _ _⟩
    case round =>
      obtain ⟨i, D', hi, rfl, hD'l, hD', hcol, hbd, hmv⟩ := hrel
      have HDL2 := Lib.hid hD'l
      have HD2 := Lib.hid hD'
      have HCOL := Lib.hid hcol
      have HBD2 := Lib.hid hbd
      have HMV := Lib.hid hmv
      have hws := hmv.size
      clear hD'l hD' hcol hbd hmv
      by_cases hlt : i < rest.length
      · obtain ⟨b, off, r, Ai, ci, rfl, hb, he, hcell, hri⟩ := (HS.out.moves HMV.out hlo hlow).at_ hlt
        have hi0 : (0 : Int) ≤ (i : Int) := Int.natCast_nonneg _
        have hi1 : (i : Int) < (rest.length : Int) := by omega
        obtain ⟨hrl, hre⟩ := HREST.out r (List.mem_of_getElem? he)
        have HE := Lib.hid he
        have HRE := Lib.hid hre
        have HRL2 := Lib.hid hrl
        have HRI := Lib.hid (IntS.wide hri (show lo ≤ wr.heap.size by omega))
        have HOW := Lib.hid ((HO.out.moves HMV.out (by omega)).ints)
        clear he hre hrl hri
        obtain ⟨wo, rfl⟩ : ∃ wo, wo = wr := ⟨_, rfl⟩
        go_wp2_with fail
        refine (HWR _ _ _ _ _ _ (by have := HRL.out; omega) HRL2.out HRE.out HOW.out HRI.out).out.mono ?_
        rintro e w2 ⟨A9, c9, rfl, ho9, hb9⟩
        have HO9 := Lib.hid ho9
        have HB9 := Lib.hid hb9
        have hw2 := hb9.size
        have HBD3 := Lib.hid (HBD2.out.below hb9 HBD2.out.lt)
        clear ho9 hb9
        have hsz2 : size < n := by omega
        have HRR : Hid (∀ r' ∈ rowF r :: R, ∀ c, in5 (r' c)) := Lib.hid (fun r' h => by
          rcases List.mem_cons.1 h with h | h
          · rw [h]; exact rowF_in HRE.out
          · exact HR.out r' h)
        have HR6 : (rowF r :: R).length ≤ 6 := by rw [List.length_cons, HRL.out]; omega
        have HVI := Lib.hid (vals_in (n := n) HR6 HRR.out)
        have HVL9 := Lib.hid (HVL.out (rowF r :: R))
        have HMA9 := Lib.hid (fun k h => HMA.out size (rowF r :: R) D' k h)
        obtain ⟨V, hV⟩ : ∃ V, V = vals n (rowF r :: R) := ⟨_, rfl⟩
        rw [← hV] at HO9 HVI HVL9 HMA9
        have HVV := Lib.hid hV
        have HM0 := Lib.hid (midRow_zero size V D' (by rw [HDL2.out]; exact hsz2))
        have HBB2 := Lib.hid ((HBB.out.moves HMV.out (by omega)).below HB9.out (by omega))
        have HBC2 := Lib.hid ((HBC.out.moves HMV.out (by omega)).below HB9.out (by omega))
        clear hV
        go_wp2_with fail
        go_loopw [25] (fun kv wx => ∃ k : Nat, k ≤ K ∧ kv = .int .i64 k ∧ Blk wx dg 3 (intCells (natI (midRow size V D' k))).toArray ∧ Moves dg (dg + 1) w2 wx) (fun kv _ => K - (intOf kv).toNat)
        case atStart => exact ⟨0, Nat.zero_le _, rfl, by rw [HM0.out]; exact HBD3.out, Moves.refl _ _ _⟩
        case round =>
          obtain ⟨k, hk, rfl, hbd, hmx⟩ := hrel
          have HBX := Lib.hid hbd
          have HMX := Lib.hid hmx
          have hwx := hmx.size
          clear hbd hmx
          have c1 : wr.cell? ⟨dB, 0, none⟩ = some (.slice (some ⟨dg, 0, none⟩) n n) := by rw [(HBB2.out.moves HMX.out (by omega)).cell]; rfl
          have d1 : wr.cell? ⟨cB, 0, none⟩ = some (.func (.func 99) #[] #[.pointer (some ⟨dB, 0, none⟩), .pointer (some ⟨cB, 0, none⟩)]) := by rw [(HBC2.out.moves HMX.out (by omega)).cell]; rfl
          by_cases hltk : k < K
          · obtain ⟨v, hv⟩ : ∃ v, V[k]? = some v := ⟨_, List.getElem?_eq_getElem (by rw [HVL9.out]; exact hltk)⟩
            obtain ⟨b9, o9, rfl, hb91, hb92, hc9⟩ := HO9.out (by rw [HVL9.out]; omega)
            have hcv := (hc9 k v hv).1
            have hcv2 : wr.cell? ⟨b9, o9 + k, none⟩ = some (.int .i64 v) := (World.cell?_of_block (a := ⟨b9, o9 + k, none⟩) (HMX.out.block b9 (by omega) (by omega))).trans hcv
            have hk0 : (0 : Int) ≤ (k : Int) := Int.natCast_nonneg _
            have hk1 : (k : Int) < (K : Int) := by omega
            have hs0 : (0 : Int) ≤ (size : Int) := Int.natCast_nonneg _
            have hs1 : (size : Int) < (n : Int) := by omega
            have hv1 := HVI.out v (List.mem_of_getElem? hv)
            have hg1 : gcdL (D'.getD size 0) (V.take k) ≤ 7500000000000000000 := gcdL_le _ _ (getD_le HD2.out size) (fun x hx => HVI.out x (List.mem_of_mem_take hx))
            have c2 : wr.cell? ⟨dg, size, none⟩ = some (.int .i64 (gcdL (D'.getD size 0) (V.take k) : Nat)) := blk_get HBX.out (natI_at (midRow_at size V D' k (by rw [HDL2.out]; exact hsz2)))
            have c3 := HBX.out.frozen size
            have HSTP := Lib.hid (midRow_step size D' hv)
            obtain ⟨g, hg⟩ : ∃ g, g = gcdL (D'.getD size 0) (V.take k) := ⟨_, rfl⟩
            rw [← hg] at hg1 c2 HSTP
            have HCD := fun w => Lib.hid (commonDivisor_any (g : Nat) v w (by unfold absB; omega) (by unfold absB; omega))
            obtain ⟨gn, hgn⟩ : ∃ gn, gn = Int.gcd (g : Nat) v := ⟨_, rfl⟩
            rw [← hgn] at HCD HSTP
            have hlb : dB < wr.heap.size := by omega
            have hld : dg < wr.heap.size := HBX.out.lt
            clear hv hcv hc9 hg hgn hv1 d1
            go_wp2_with fail
            go_region_law (first
              | (go_simp
                 go_at_call 100
                 refine (HCD _).out.mono ?_
                 rintro e w6 ⟨rfl, hb6⟩
                 have q1 : w6.cell? ⟨dB, 0, none⟩ = some (.slice (some ⟨dg, 0, none⟩) n n) := (hb6.cell (p := ⟨dB, 0, none⟩) hlb).trans c1
                 have q2 : w6.cell? ⟨dg, size, none⟩ = some (.int .i64 (g : Nat)) := (hb6.cell (p := ⟨dg, size, none⟩) hld).trans c2
                 have q3 : w6.frozen? ⟨dg, size, none⟩ = false := (hb6.frozen (p := ⟨dg, size, none⟩) hld).trans c3))
            all_goals
              have hb6 : Below wr.heap.size wr w6 := (Below.refl wr.heap.size wr).drew.trans hb6
              have hbn := (HBX.out.below hb6 hld).set_ size (.int .i64 (gn : Int))
              rw [List.setIfInBounds_toArray, natI_set, HSTP.out] at hbn
              have HBN := Lib.hid hbn
              have hmv6 : Moves dg (dg + 1) wr w6 := ⟨hb6.os, hb6.tape, hb6.output, hb6.size, fun i hi _ => hb6.block i hi⟩
              have HMN := Lib.hid ((HMX.out.trans hmv6).set_ size (.int .i64 (gn : Int)))
              clear hbn hmv6 hb6 q1 q2 q3
              go_wp2
              exact ⟨⟨k + 1, by omega, by go_num, HBN.out, HMN.out⟩, by simp [intOf]; omega⟩
          · have hbx := HBX.out
            rw [HMA9.out k (by omega)] at hbx
            have HBY := Lib.hid hbx
            have HAL := Lib.hid (afterRow_len n size (rowF r :: R) D')
            have HAD := Lib.hid (afterRow_le (n := n) (size := size) HR6 HRR.out HD2.out)
            have hre2 : (rest.drop i).map rowF = rowF r :: (rest.drop (i + 1)).map rowF := by
              have hl : i < rest.length := hlt
              rw [List.drop_eq_getElem_cons hl, List.map_cons]
              have := HE.out
              rw [List.getElem?_eq_getElem hl] at this
              injection this with this
              rw [this]
            have HC2 := Lib.hid (show collectF n size R (rest.map rowF) D = collectF n size R ((rest.drop (i + 1)).map rowF) (collectF n (size + 1) (rowF r :: R) ((rest.drop (i + 1)).map rowF) (afterRow n size (rowF r :: R) D')) by rw [HCOL.out, hre2, collectF_cons])
            have hdl : (rest.drop (i + 1)).length = rest.length - (i + 1) := List.length_drop
            have HCL := Lib.hid (collectF_len n ((rest.drop (i + 1)).map rowF) (size + 1) (rowF r :: R) (afterRow n size (rowF r :: R) D'))
            have HCB := Lib.hid (collectF_le (n := n) ((rest.drop (i + 1)).map rowF) (size + 1) (rowF r :: R) (afterRow n size (rowF r :: R) D') (by rw [List.length_map, hdl, List.length_cons, HRL.out]; omega) HRR.out (fun r' hr' => by
              obtain ⟨r0, hr0, rfl⟩ := List.mem_map.1 hr'
              exact rowF_in (HREST.out r0 (List.mem_of_mem_drop hr0)).2) HAD.out)
            obtain ⟨DD, hDD⟩ : ∃ DD, DD = collectF n (size + 1) (rowF r :: R) ((rest.drop (i + 1)).map rowF) (afterRow n size (rowF r :: R) D') := ⟨_, rfl⟩
            rw [← hDD] at HC2 HCL HCB
            have hBw : Moves dg (dg + 1) w wr := HMV.out.trans (Moves.trans ⟨HB9.out.os, HB9.out.tape, HB9.out.output, HB9.out.size, fun i hi _ => HB9.out.block i hi⟩ HMX.out)
            have HBW := Lib.hid hBw
            have HBB4 := Lib.hid (HBB2.out.moves HMX.out (by omega))
            have HBC4 := Lib.hid (HBC2.out.moves HMX.out (by omega))
            have HO4 := Lib.hid (HO9.out.moves HMX.out (by have := HBD2.out.lt; omega))
            rw [HVV.out] at HO4
            have hss : IntSS wr lo (some ⟨b, off, none⟩) rest := HS.out.moves HBW.out hlo hlow
            have hlow4 : lo ≤ wr.heap.size := by omega
            have HI : ∀ (A2 : Option Addr) (cb2 : Nat), rest.length - (i + 1) ≤ cb2 → IntSS wr lo A2 (rest.drop (i + 1)) → Hid (Calls Try.prog 99 #[.int .i64 ((size : Int) + 1), .slice A9 K c9, .slice A2 (rest.length - (i + 1)) cb2, .pointer (some ⟨dB, 0, none⟩), .pointer (some ⟨cB, 0, none⟩)] wr.drew (Collected wr.drew dg DD)) := fun A2 cb2 hcb2 hS2 => Lib.hid (by
              have h := HIK.out (rest.drop (i + 1)) (size + 1) (rowF r :: R) (afterRow n size (rowF r :: R) D') A9 A2 c9 cb2 lo wo.heap.size wr.drew (by rw [hdl]; omega) (by rw [hdl]; omega) (by rw [List.length_cons, HRL.out]) (by rw [HAL.out, HDL2.out]) HAD.out HRR.out (fun r0 h0 => HREST.out r0 (List.mem_of_mem_drop h0)) (by rw [hdl]; exact hcb2) (by have := HBD2.out.lt; omega) hlo hlow4 HO4.out hS2 HBB4.out HBC4.out HBY.out
              rw [hdl, ← hDD, show ((size + 1 : Nat) : Int) = (size : Int) + 1 by omega] at h
              exact h)
            have CKEEP : Hid (∀ w8, Moves dg (dg + 1) wr.drew w8 → w8.cell? ⟨cB, 0, none⟩ = some (.func (.func 99) #[] #[.pointer (some ⟨dB, 0, none⟩), .pointer (some ⟨cB, 0, none⟩)])) := Lib.hid (fun w8 h => by
              have h1 := Blk.moves (w := wr.drew) (w' := w8) HBC4.out h (by omega)
              rw [h1.cell]; rfl)
            have hq1 : (i : Int) + 1 ≤ (rest.length : Int) := by omega
            have hq2 : (rest.length : Int) ≤ (cb : Int) := by omega
            have hq3 : (0 : Int) ≤ (i : Int) + 1 := by omega
            have hq4 : i + 1 ≤ rest.length := by omega
            have z1 : IntKind.i64.wrap ((i : Int) + 1) = (i : Int) + 1 := by rw [IntKind.wrap_i64]; omega
            have z2 : ((i : Int) + 1).toNat = i + 1 := by omega
            have z3 : IntKind.i64.wrap ((size : Int) + 1) = (size : Int) + 1 := by rw [IntKind.wrap_i64]; omega
            have HDRL := Lib.hid hdl
            clear c1 hre2 hdl hDD hBw hbx
            by_cases hcq : cb = i + 1
            · have HZ := Lib.hid (show rest.length - (i + 1) = 0 by omega)
              have HI0 : ∀ (A2 : Option Addr) (cb2 : Nat), 0 ≤ cb2 → IntSS wr lo A2 (rest.drop (i + 1)) → Hid (Calls Try.prog 99 #[.int .i64 ((size : Int) + 1), .slice A9 K c9, .slice A2 0 cb2, .pointer (some ⟨dB, 0, none⟩), .pointer (some ⟨cB, 0, none⟩)] wr.drew (Collected wr.drew dg DD)) := fun A2 cb2 h1 h2 => by
                have h := HI A2 cb2 (by rw [HZ.out]; exact h1) h2
                rw [HZ.out] at h
                exact h
              have hq8 : (rest.length : Int) ≤ (i : Int) + 1 := by omega
              clear hss
              subst hcq
              go_wp2_with fail
              go_region_held3 (fun w' => w'.cell? ⟨cB, 0, none⟩ = some (.func (.func 99) #[] #[.pointer (some ⟨dB, 0, none⟩), .pointer (some ⟨cB, 0, none⟩)]))
                (first
                  | exact d1
                  | exact CKEEP.out _ hm8)
                ((go_at_call 99; refine (HI0 (some ⟨b, off, none⟩) 0 (Nat.le_refl _) (fun h => absurd h (by rw [HDRL.out, HZ.out]; omega))).out.mono ?_; rintro e w8 ⟨rfl, hd8, hm8⟩))
              have HD8 := Lib.hid hd8
              have HM8 := Lib.hid (HBW.out.trans (Moves.trans (w' := wr.drew) ⟨rfl, rfl, rfl, Nat.le_refl _, fun _ _ _ => rfl⟩ hm8))
              clear hd8 hm8
              go_wp2
              exact ⟨⟨i + 1, DD, by omega, by go_num, by rw [HCL.out, HAL.out, HDL2.out], HCB.out, HC2.out, HD8.out, HM8.out⟩, by simp [intOf]; omega⟩
            · have HTAIL : Hid (IntSS wr lo (some ⟨b, off + (i + 1), none⟩) (rest.drop (i + 1))) := Lib.hid (fun hn => by
                obtain ⟨b2, o2, e2, hb2, hc2⟩ := hss (by omega)
                injection e2 with e2
                injection e2 with e3 e4
                subst e3
                subst e4
                refine ⟨b, off + (i + 1), rfl, hb2, fun j r0 hr0 => ?_⟩
                rw [List.getElem?_drop] at hr0
                have := hc2 (i + 1 + j) r0 hr0
                rw [Nat.add_assoc]
                exact this)
              clear hss
              go_wp2_with fail
              go_region_held3 (fun w' => w'.cell? ⟨cB, 0, none⟩ = some (.func (.func 99) #[] #[.pointer (some ⟨dB, 0, none⟩), .pointer (some ⟨cB, 0, none⟩)]))
                (first
                  | exact d1
                  | exact CKEEP.out _ hm8)
                ((go_at_call 99; refine (HI (some ⟨b, off + (i + 1), none⟩) _ (by omega) HTAIL.out).out.mono ?_; rintro e w8 ⟨rfl, hd8, hm8⟩))
              have HD8 := Lib.hid hd8
              have HM8 := Lib.hid (HBW.out.trans (Moves.trans (w' := wr.drew) ⟨rfl, rfl, rfl, Nat.le_refl _, fun _ _ _ => rfl⟩ hm8))
              clear hd8 hm8
              go_wp2
              exact ⟨⟨i + 1, DD, by omega, by go_num, by rw [HCL.out, HAL.out, HDL2.out], HCB.out, HC2.out, HD8.out, HM8.out⟩, by simp [intOf]; omega⟩
      · have hie : i = rest.length := by omega
        have HFIN := Lib.hid (show collectF n size R (rest.map rowF) D = D' by rw [HCOL.out, hie, List.drop_length]; rfl)
        clear hie
        go_wp2
        go_end0
        exact ⟨rfl, by rw [HFIN.out]; exact HBD2.out, HMV.out⟩
end Go.Proofs.Ytbmihbbpdmpmpaa
