/- The specification's sets of numbers. -/
import Derived.Test.YtbmihbbpdmpmpaaRedS
import Derived.Test.YtbmihbbpdmpmpaaBD
namespace Go.Proofs.Ytbmihbbpdmpmpaa
open Go.RowKit

theorem SSOwnV.cell {w : World} {base : Nat} {v : Value} {vs : List Value} {rs : List (List Int)} (h : SSOwnV w base v vs rs) {a : Nat} {u : Value} (hu : vs[a]? = some u) :
    ∃ (g cap : Nat), v = .slice (some ⟨g, 0, none⟩) rs.length cap ∧ g < w.heap.size ∧ w.cell? ⟨g, a, none⟩ = some u := by
  obtain ⟨h1, _⟩ := h
  have ha : a < vs.length := (List.getElem?_eq_some_iff.1 hu).1
  have hl := h1.1
  rcases h1.2 with ⟨_, e0⟩ | ⟨g, cap, cur, e, hb, hg, hnc, _, hcs, htk⟩
  · omega
  · have hob : v.ownBlock = some g := by rw [e]; rfl
    have hc := h1.cells hob a u hu
    rw [Addr.add_lit, Nat.zero_add] at hc
    exact ⟨g, cap, e, (h1.lt g hob).2, hc⟩
theorem SSOwnV.ints {w : World} {base b n c : Nat} {v : Value} {vs : List Value} {rs : List (List Int)} (h : SSOwnV w base v vs rs) {a : Nat} {r : List Int} (hr : rs[a]? = some r) (hu : vs[a]? = some (.slice (some ⟨b, 0, none⟩) n c)) :
    ∀ (i : Nat) (x : Int), r[i]? = some x → w.cell? ⟨b, i, none⟩ = some (.int .i64 x) := fun i x hx => by
  obtain ⟨u, hu2, hq⟩ := h.2 a r hr
  rw [hu] at hu2
  injection hu2 with hu2
  subst hu2
  have := World.ownsRow.cells hq rfl i (.int .i64 x) (by simp [intCells, hx])
  rwa [Addr.add_lit, Nat.zero_add] at this
theorem SSOwnV.lt {w : World} {base b n c : Nat} {v : Value} {vs : List Value} {rs : List (List Int)} (h : SSOwnV w base v vs rs) {a : Nat} {r : List Int} (hr : rs[a]? = some r) (hu : vs[a]? = some (.slice (some ⟨b, 0, none⟩) n c)) : b < w.heap.size := by
  obtain ⟨u, hu2, hq⟩ := h.2 a r hr
  rw [hu] at hu2
  injection hu2 with hu2
  subst hu2
  exact (World.ownsRow.lt hq b rfl).2
/-- a value that is a slice with an address, of n numbers -/
def Pointed (u : Value) (n : Nat) : Prop := ∃ b c : Nat, u = .slice (some ⟨b, 0, none⟩) n c ∧ n ≤ c
/-- rows handed back, each with an address -/
def GivesSets (w : World) (rs : List (List Int)) (e : Ending) (w' : World) : Prop :=
  ∃ (v : Value) (vs : List Value), e = .returned v ∧ SSOwnV w' w.heap.size v vs rs ∧ (∀ (i : Nat) (r : List Int), rs[i]? = some r → ∃ u, vs[i]? = some u ∧ Pointed u r.length) ∧ Below w.heap.size w w'
theorem own_pointed {w : World} {base : Nat} {u : Value} {r : List Int} (h : QOwn w base u r) (hr : 0 < r.length) : Pointed u r.length := by
  rcases h.2 with ⟨_, e0⟩ | ⟨g, cap, cur, e, _, _, hnc, _⟩
  · omega
  · exact ⟨g, cap, e, hnc⟩
theorem sets_below {wr w1 w2 : World} {v1 : Value} {n j : Nat} {xs : List Value} (h1 : World.grownBy (wr.alloc (Obj.cells #[] 3)) w1 (some wr.heap.size)) (o1 : w1.ownsRow wr.heap.size 3 1 v1 n xs)
    (h2 : World.grownBy (w1.alloc (Obj.cells #[.int .i64 (j : Int)] 3)) w2 v1.ownBlock) : Below wr.heap.size wr w2 := by
  have bA : Below wr.heap.size wr (wr.alloc (Obj.cells #[] 3)) := (Below.refl _ _).alloc (Nat.le_refl _) _
  have bB : Below wr.heap.size wr w1 := bA.trans (grown_below h1 (by simp) (fun k e => by injection e with e; omega))
  have bC : Below wr.heap.size wr (w1.alloc (Obj.cells #[.int .i64 (j : Int)] 3)) := bB.alloc bB.size _
  exact bC.trans (grown_below h2 bC.size (fun k e => (o1.lt k e).1))
theorem sets_own {w : World} {base k j : Nat} {v : Value} {s : List Nat} (hs : s.length = k) (h : w.ownsRow base 3 1 v (k + 1) (intCells (natI s) ++ [.int .i64 (j : Int)])) : QOwn w base v (natI (s ++ [j])) := by
  have e1 : intCells (natI s) ++ [.int .i64 (j : Int)] = intCells (natI (s ++ [j])) := by simp [intCells, natI]
  have e2 : k + 1 = (natI (s ++ [j])).length := by simp [natI, hs]
  rw [e1, e2] at h
  exact h
/-- the sets that come of the first a sets -/
def setsTo (n k a : Nat) : List (List Int) := ((setsB n k).take a).flatMap fun s => (List.range' (behind s) (n - behind s)).map fun i => natI (s ++ [i])
theorem setsTo_all (n k : Nat) : setsTo n k (setsB n k).length = (setsB n (k + 1)).map natI := by
  rw [setsTo, List.take_length, setsB, List.map_flatMap]
  simp [List.map_map, Function.comp_def]
theorem setsTo_step {n k a : Nat} {s : List Nat} (h : (setsB n k)[a]? = some s) : setsTo n k (a + 1) = setsTo n k a ++ (List.range' (behind s) (n - behind s)).map fun i => natI (s ++ [i]) := by
  rw [setsTo, List.take_add_one, h, Option.toList_some, List.flatMap_append, setsTo]
  simp
theorem sets_pos : ∀ n, n ≤ 6 → ∀ k, k ≤ n → 0 < (setsB n k).length := by decide +kernel
theorem setsTo_le {n k a : Nat} (hn : n ≤ 6) (hk : k + 1 ≤ 6) : (setsTo n k a).length ≤ 20 := by
  have h1 := (sets_size n hn (k + 1) hk).1
  have h2 : (setsTo n k a).length ≤ ((setsB n (k + 1)).map natI).length := by
    rw [← setsTo_all n k, setsTo, setsTo, List.take_length, List.length_flatMap, List.length_flatMap]
    have : setsB n k = (setsB n k).take a ++ (setsB n k).drop a := (List.take_append_drop _ _).symm
    conv => rhs; rw [this, List.map_append, List.sum_append]
    exact Nat.le_add_right _ _
  rw [List.length_map] at h2
  omega
theorem part_le {n k a f j : Nat} {s : List Nat} (hn : n ≤ 6) (hk : k + 1 ≤ 6) (h : (setsB n k)[a]? = some s) (hf : f = behind s) (hj : j < n) : (setsTo n k a ++ (List.range' f (j - f)).map fun i => natI (s ++ [i])).length ≤ 20 := by
  have h1 := setsTo_le (a := a + 1) hn hk
  rw [setsTo_step h, List.length_append, List.length_map, List.length_range'] at h1
  rw [List.length_append, List.length_map, List.length_range', hf]
  omega
theorem part_push {f j : Nat} (s : List Nat) (dn : List (List Int)) (h : f ≤ j) : (dn ++ (List.range' f (j - f)).map fun i => natI (s ++ [i])) ++ [natI (s ++ [j])] = dn ++ (List.range' f (j + 1 - f)).map fun i => natI (s ++ [i]) := by
  have e : j + 1 - f = (j - f) + 1 := by omega
  rw [e, List.range'_concat, List.map_append, List.append_assoc]
  have e2 : f + 1 * (j - f) = j := by omega
  rw [e2]
  rfl

set_option maxRecDepth 100000 in
set_option maxHeartbeats 4000000 in
theorem sets_any (n : Nat) (hn : n ≤ 6) : ∀ (k : Nat), k ≤ n → ∀ w : World, Calls Try.prog 70 #[.int .i64 (n : Int), .int .i64 (k : Int)] w (GivesSets w ((setsB n k).map natI)) := by
  obtain ⟨i0, hi, hz0, hz1, hz2⟩ := info_parts intInfo
  obtain ⟨i1, hj, hy0, hy1, hy2⟩ := info_parts rowsInfo
  intro k
  induction k with
  | zero =>
    intro _ w
    have H : GivesSets w ((setsB n 0).map natI) (.returned (.slice (some ⟨w.heap.size + 1, 0, none⟩) 1 1)) ((w.alloc (Obj.cells #[] 3)).alloc (Obj.cells #[.slice (some ⟨w.heap.size, 0, none⟩) 0 0] 43)) := by
      refine ⟨_, [.slice (some ⟨w.heap.size, 0, none⟩) 0 0], rfl, ⟨⟨rfl, .inr ⟨w.heap.size + 1, 1, #[.slice (some ⟨w.heap.size, 0, none⟩) 0 0], rfl, Nat.le_succ _, ?_, Nat.le_refl _, by unfold maxLen; omega, rfl, rfl⟩⟩, ?_⟩, ?_, ?_⟩
      · have := heap_alloc_new (w.alloc (Obj.cells #[] 3)) (Obj.cells #[.slice (some ⟨w.heap.size, 0, none⟩) 0 0] 43)
        simpa using this
      · intro i r hr
        have h0 : i = 0 ∧ r = [] := by
          cases i with
          | zero => simp [setsB, natI] at hr; exact ⟨rfl, hr⟩
          | succ i => simp [setsB] at hr
        obtain ⟨rfl, rfl⟩ := h0
        exact ⟨_, rfl, World.ownsRow.alloc (own_emptyD w _ (Nat.le_refl _) _) _⟩
      · intro i r hr
        have h0 : i = 0 ∧ r = [] := by
          cases i with
          | zero => simp [setsB, natI] at hr; exact ⟨rfl, hr⟩
          | succ i => simp [setsB] at hr
        obtain ⟨rfl, rfl⟩ := h0
        exact ⟨_, rfl, _, 0, rfl, Nat.le_refl _⟩
      · exact ((Below.refl _ _).alloc (Nat.le_refl _) _).alloc (by simp) _
    have HH := Lib.hid H
    clear H
    go_enter Try.func70, Try.ntmps70
    go_wp2
    go_ret
    exact HH.out
  | succ k ih =>
    intro hkn w
    have hk6 : k + 1 ≤ 6 := by omega
    have IH := fun w => Lib.hid (ih (by omega) w)
    have HPOS := Lib.hid (sets_pos n hn k (by omega))
    have HALL := Lib.hid (setsTo_all n k)
    have HSIZ := Lib.hid (sets_size n hn k (by omega))
    have HSTEP := Lib.hid (fun a s h => setsTo_step (n := n) (k := k) (a := a) (s := s) h)
    have HPART := Lib.hid (fun a s f j h hf hj => part_le (n := n) (k := k) (a := a) (f := f) (j := j) (s := s) hn hk6 h hf hj)
    have HTO := Lib.hid (show setsTo n k 0 = [] by simp [setsTo])
    obtain ⟨T, hT⟩ : ∃ T : Nat → List (List Int), T = setsTo n k := ⟨_, rfl⟩
    rw [← hT] at HALL HSTEP HPART HTO
    obtain ⟨SS, hSS⟩ : ∃ SS, SS = setsB n k := ⟨_, rfl⟩
    rw [← hSS] at IH HPOS HALL HSIZ HSTEP HPART
    obtain ⟨L, hL⟩ : ∃ L, L = SS.map natI := ⟨_, rfl⟩
    have hLL : L.length = SS.length := by rw [hL, List.length_map]
    have HLT := Lib.hid (fun a (s : List Nat) (h : SS[a]? = some s) => show L[a]? = some (natI s) by rw [hL, List.getElem?_map, h]; rfl)
    rw [← hL] at IH
    obtain ⟨K, hK⟩ : ∃ K, K = SS.length := ⟨_, rfl⟩
    rw [← hK] at hLL HPOS HALL HSIZ
    have HLL := Lib.hid hLL
    have HK := Lib.hid hK
    have hpos := HPOS.out
    have hsiz := HSIZ.out.1
    have t0 : (((k + 1 : Nat) : Int) == 0) = false := by simp; omega
    have tk : ((k + 1 : Nat) : Int) - 1 = (k : Int) := by omega
    have tk2 : IntKind.i64.wrap (k : Int) = (k : Int) := by rw [IntKind.wrap_i64]; omega
    have hk0 : (0 : Int) ≤ (k : Int) := Int.natCast_nonneg _
    have hk1 : (k : Int) ≤ 6 := by omega
    clear ih hT hSS hL hK hLL
    go_enter Try.func70, Try.ntmps70
    go_wp2_with fail
    refine (IH _).out.mono ?_
    rintro e w2 ⟨vL, vsL, rfl, hsV, hpt, hb3⟩
    obtain ⟨s0, hs0⟩ : ∃ s, SS[0]? = some s := ⟨_, List.getElem?_eq_getElem (by have := HK.out; omega)⟩
    obtain ⟨u0, hu0, x0, cx0, rfl, _⟩ := hpt 0 _ (HLT.out 0 s0 hs0)
    obtain ⟨gL, capL, rfl, hgL2, hcL⟩ := hsV.cell hu0
    have hx0 := hsV.lt (HLT.out 0 s0 hs0) hu0
    have hgL1 := (hsV.1.lt gL rfl).1
    rw [HLL.out]
    have HSL := Lib.hid hsV
    have HCL := Lib.hid hcL
    have HPT := Lib.hid hpt
    have hb2 : Below w.heap.size w (w.alloc (Obj.cells #[] 43)) := (Below.refl _ _).alloc (Nat.le_refl _) _
    have HB3 := Lib.hid (hb2.trans (hb3.mono hb2.size))
    have hs3 := hb3.size
    have HG0 : Hid (Blk w2 w.heap.size 43 #[]) := Lib.hid ((Blk.new w _ _).below hb3 (by simp))
    obtain ⟨lo, hlo⟩ : ∃ lo, lo = (w.alloc (Obj.cells #[] 43)).heap.size := ⟨_, rfl⟩
    have hw1 : w.heap.size < lo := by rw [hlo]; simp
    rw [← hlo] at HSL hs3 hgL1
    have hrow : w2.ownsRow w.heap.size 43 1 (.slice (some ⟨w.heap.size, 0, none⟩) 0 0) 0 [] := ⟨rfl, .inr ⟨w.heap.size, 0, #[], rfl, Nat.le_refl _, HG0.out, Nat.le_refl _, Nat.zero_le _, rfl, rfl⟩⟩
    have HROW := Lib.hid hrow
    obtain ⟨m0, hm0⟩ : ∃ m0, m0 = (natI s0).length := ⟨_, rfl⟩
    rw [← hm0] at HCL
    clear hs0 hu0 hsV hcL hpt hb2 hb3 hlo hrow HG0 hm0
    go_wp2_with fail
    go_loopw [5, 20] (fun v i wr => ∃ a : Nat, a ≤ K ∧ i = .int .i64 a ∧ SSOwn2 wr w.heap.size w2.heap.size v (T a) ∧ v.ownBlock ≠ some gL ∧ SSOwnV wr lo (.slice (some ⟨gL, 0, none⟩) L.length capL) vsL L ∧ wr.cell? ⟨gL, 0, none⟩ = some (.slice (some ⟨x0, 0, none⟩) m0 cx0) ∧ Below w.heap.size w wr ∧ w2.heap.size ≤ wr.heap.size) (fun _ i _ => K - (intOf i).toNat)
    case atStart =>
      refine ⟨0, Nat.zero_le _, rfl, ⟨[], by rw [HTO.out]; exact HROW.out, fun i r h => by rw [HTO.out] at h; simp at h⟩, ?_, HSL.out, HCL.out, HB3.out, Nat.le_refl _⟩
      simp only [Value.ownBlock, ne_eq, Option.some.injEq]
      omega
    case round =>
      obtain ⟨a, ha, rfl, hso, hne, hsl, hcl, hb, hsz⟩ := hrel
      have HSO := Lib.hid hso
      have HSLr := Lib.hid hsl
      have HCLr := Lib.hid hcl
      have HNE := Lib.hid hne
      have HB := Lib.hid hb
      clear hso hsl hcl hne hb
      by_cases hlt : a < K
      · obtain ⟨s, hs⟩ : ∃ s, SS[a]? = some s := ⟨_, List.getElem?_eq_getElem (by have := HK.out; omega)⟩
        obtain ⟨ua, hua, b, cb, rfl, hcb⟩ := HPT.out a _ (HLT.out a s hs)
        obtain ⟨gL', capL', hv, hgl, hcell⟩ := HSLr.out.cell hua
        injection hv with hv1 _ hv3
        injection hv1 with hv1
        injection hv1 with hv1
        subst hv1
        obtain ⟨hsn, hsi, hsb⟩ := HSIZ.out.2 s (List.mem_of_getElem? hs)
        rw [natI_len, hsn] at hcell hcb hua
        have HSN := Lib.hid hsn
        have HVA := Lib.hid hua
        have HLA := Lib.hid (HLT.out a s hs)
        have hbl := HSLr.out.lt HLA.out hua
        have ha0 : (0 : Int) ≤ (a : Int) := Int.natCast_nonneg _
        have ha1 : (a : Int) < (K : Int) := by omega
        have HDN0 := Lib.hid (HSTEP.out a s hs)
        have HPT0 := Lib.hid (fun j => HPART.out a s (behind s) j hs rfl)
        obtain ⟨f, hf⟩ : ∃ f, f = behind s := ⟨_, rfl⟩
        obtain ⟨dn, hdn⟩ : ∃ dn, dn = T a := ⟨_, rfl⟩
        have HDN : Hid (T (a + 1) = dn ++ (List.range' f (n - f)).map fun i => natI (s ++ [i])) := Lib.hid (by rw [hdn, hf]; exact HDN0.out)
        have hfn : f ≤ n := by omega
        have PUSH := Lib.hid (fun j h => part_push (f := f) (j := j) s dn h)
        have PLEN : Hid (∀ j, j < n → (dn ++ (List.range' f (j - f)).map fun i => natI (s ++ [i])).length ≤ 20) := Lib.hid (fun j hj => by
          rw [hdn, hf]
          have h := HPART.out a s (behind s) j hs rfl hj
          exact h)
        rw [← hdn] at HSO
        have HLAST : Hid (∀ (i : Nat) (x : Nat), s[i]? = some x → wr.cell? ⟨b, i, none⟩ = some (.int .i64 (x : Int))) := Lib.hid (fun i x hx => HSLr.out.ints HLA.out hua i _ (natI_at hx))
        clear hs hua hv3 hsn hsi hsb HDN0 HPT0 hdn hcb
        by_cases hkz : k = 0
        · have hfz : f = 0 := by
            have hsz0 : s = [] := List.length_eq_zero_iff.1 (by rw [HSN.out]; exact hkz)
            rw [hf, hsz0]
            rfl
          have HFX := Lib.hid hfz
          have hkk0 : (k : Int) ≤ 0 := by omega
          clear hf hfz hkz
          go_wp2_with fail
          go_loopw [5, 9] (fun v i wr => ∃ j : Nat, f ≤ j ∧ j ≤ n ∧ i = .int .i64 j ∧ SSOwn2 wr w.heap.size w2.heap.size v (dn ++ (List.range' f (j - f)).map fun i => natI (s ++ [i])) ∧ v.ownBlock ≠ some gL ∧ SSOwnV wr lo (.slice (some ⟨gL, 0, none⟩) L.length capL) vsL L ∧ wr.cell? ⟨gL, 0, none⟩ = some (.slice (some ⟨x0, 0, none⟩) m0 cx0) ∧ Below w.heap.size w wr ∧ w2.heap.size ≤ wr.heap.size) (fun _ i _ => n - (intOf i).toNat)
          case atStart => exact ⟨f, Nat.le_refl _, hfn, by rw [HFX.out]; go_num, by rw [Nat.sub_self]; simpa using HSO.out, HNE.out, HSLr.out, HCLr.out, HB.out, hsz⟩
          case round =>
            obtain ⟨j, hj0, hjn, rfl, hso, hne, hsl, hcl, hb, hsz⟩ := hrel
            have HSO3 := Lib.hid hso
            have HSL3 := Lib.hid hsl
            have HCL3 := Lib.hid hcl
            have HNE3 := Lib.hid hne
            have HB3 := Lib.hid hb
            clear hso hsl hcl hne hb
            by_cases hlt2 : j < n
            · have hji0 : (0 : Int) ≤ (j : Int) := Int.natCast_nonneg _
              have hji1 : (j : Int) < (n : Int) := by omega
              obtain ⟨gL', capL', hv, hgl, hcell⟩ := HSL3.out.cell (HVA.out)
              injection hv with hv1 _ hv3
              injection hv1 with hv1
              injection hv1 with hv1
              subst hv1
              have hcells := HSL3.out.ints HLA.out HVA.out
              have hbl := HSL3.out.lt HLA.out HVA.out
              have HCS := Lib.hid hcells
              have HPL := Lib.hid (PLEN.out j hlt2)
              have HPU := Lib.hid (PUSH.out j hj0)
              obtain ⟨rs, hrs⟩ : ∃ rs, rs = dn ++ (List.range' f (j - f)).map fun i => natI (s ++ [i]) := ⟨_, rfl⟩
              rw [← hrs] at HPL HPU HSO3
              have hcl := HPL.out
              obtain ⟨vs, hvs1, hvs2⟩ := HSO3.out
              have hO1 := own_emptyD wr wr.heap.size (Nat.le_refl _) 3
              have hbA : Below wr.heap.size wr (wr.alloc (Obj.cells #[] 3)) := (Below.refl _ _).alloc (Nat.le_refl _) _
              have hn1 : ∀ (i : Nat) (u : Value), (intCells (natI s))[i]? = some u → (wr.alloc (Obj.cells #[] 3)).cell? ((⟨b, 0, none⟩ : Addr).add i) = some u := fun i u hu => by
                simp only [intCells, List.getElem?_map, Option.map_eq_some_iff] at hu
                obtain ⟨z, hz, rfl⟩ := hu
                rw [Addr.add_lit, Nat.zero_add]
                exact (hbA.cell (p := ⟨b, i, none⟩) (by simp only; omega)).trans (HCS.out i z hz)
              have g1 : (intCells (natI s)).length = k * 1 := by simp [intCells, natI, HSN.out]
              have g2 : ∀ u ∈ intCells (natI s), u.oneCell' = true := fun u hu => by
                simp only [intCells, List.mem_map] at hu
                obtain ⟨z, _, rfl⟩ := hu
                rfl
              have g3 : 0 + k ≤ maxLen := by unfold maxLen; omega
              have g4 : (0 + k) * 8 ≤ 140737488355328 := by omega
              have g5 : wr.heap.size ≤ (wr.alloc (Obj.cells #[] 3)).heap.size := by simp
              have g6 : k + 1 ≤ maxLen := by unfold maxLen; omega
              have g7 : (k + 1) * 8 ≤ 140737488355328 := by omega
              have n3 : rs.length + 1 ≤ maxLen := by unfold maxLen; omega
              have n4 : (rs.length + 1) * 24 ≤ 140737488355328 := by omega
              have STEP : Hid (∀ (v1 : Value) (w1 : World) (v2 : Value) (w2 : World), w1.ownsRow wr.heap.size 3 1 v1 k (intCells (natI s)) → World.grownBy (wr.alloc (Obj.cells #[] 3)) w1 (some wr.heap.size) →
                  w2.ownsRow wr.heap.size 3 1 v2 (k + 1) (intCells (natI s) ++ [.int .i64 (j : Int)]) → World.grownBy (w1.alloc (Obj.cells #[.int .i64 (j : Int)] 3)) w2 v1.ownBlock → _) := Lib.hid (fun v1 w1' v2 w2' o1 h1 o2 h2 =>
                    push_step HB3.out hsz hvs1 hvs2 HNE3.out HSL3.out (gL := gL) rfl HCL3.out hx0 (sets_below h1 o1 h2) (sets_own HSN.out o2))
              have HO1 := Lib.hid hO1
              have HN1 := Lib.hid hn1
              have G1 := Lib.hid g1
              have G2 := Lib.hid g2
              clear hO1 hn1 g1 g2 hbA hvs1 hvs2 hrs hcells hv3
              go_wp2_with (at_builtin; refine wpList_append_own _ rfl _ _ 43 rfl wr.heap.size 3 i0 (.int .i64 0) 1 8 Try.underlying43 hi hz0 hz1 hz2 rfl (by decide) _ _ _ rfl HO1.out ⟨b, 0, none⟩ k _ (intCells (natI s)) rfl G1.out HN1.out G2.out g3 g4 g5 ?_)
              intro v1 w3 hown1 hgrow1 _
              have hg1 : World.grownBy (wr.alloc (Obj.cells #[] 3)) w3 (some wr.heap.size) := hgrow1
              have hs1 : wr.heap.size ≤ (w3.alloc (Obj.cells #[.int .i64 (j : Int)] 3)).heap.size := by have := hg1.size; simp at this ⊢; omega
              have HW1 := Lib.hid hown1
              have HG1 := Lib.hid hg1
              clear hown1 hgrow1 hg1
              go_wp2_with (at_builtin; refine wpList_append_own _ rfl _ _ 43 rfl wr.heap.size 3 i0 (.int .i64 0) 1 8 Try.underlying43 hi hz0 hz1 hz2 rfl (by decide) _ _ _ rfl (HW1.out.alloc _) ⟨w3.heap.size, 0, none⟩ 1 1 [.int .i64 (j : Int)] rfl rfl (one_cell _ _ rfl _ _) (fun u hu => by rw [List.mem_singleton] at hu; rw [hu]; rfl) g6 g7 hs1 ?_)
              intro v2 w4 hown2 hgrow2 _
              obtain ⟨hq1, hq2, hq3⟩ := STEP.out v1 w3 v2 w4 HW1.out HG1.out hown2 hgrow2
              obtain ⟨A2, m2, c2, rfl⟩ := own_sl hown2
              have HQ1 := Lib.hid hq1
              have HQ3 := Lib.hid hq3
              clear hq1 hq3 hown2 hgrow2 HW1 HG1 hs1
              go_wp2_with (at_builtin; refine wpList_append_own _ rfl _ _ 26 rfl w.heap.size 43 i1 (.slice none 0 0) 1 24 Try.underlying26 hj hy0 hy1 hy2 rfl (by decide) _ _ _ rfl HQ1.out ⟨w4.heap.size, 0, none⟩ 1 1 [_] rfl rfl (one_cell _ _ rfl _ _) (fun u hu => by rw [List.mem_singleton] at hu; rw [hu]; rfl) n3 n4 hq2 ?_)
              intro v3 w5 hown3 hgrow3 _
              have HF := Lib.hid (HQ3.out w5 v3 hown3 hgrow3)
              clear hown3 hgrow3 HQ3 HQ1
              obtain ⟨f1, f2, f3, f4, f5, f6⟩ := HF.out
              rw [HPU.out] at f1
              have F1 := Lib.hid f1
              have F2 := Lib.hid f2
              have F3 := Lib.hid f3
              have F4 := Lib.hid f4
              have F6 := Lib.hid f6
              clear f1 f2 f3 f4 f6 HF
              go_wp2
              exact ⟨⟨j + 1, by omega, by omega, by go_num, F1.out, F2.out, F3.out, F6.out, F4.out, f5⟩, by simp [intOf]; omega⟩
            · have hso := HSO3.out
              rw [show j = n by omega, ← HDN.out] at hso
              have HSO4 := Lib.hid hso
              clear hso
              go_wp2
              exact ⟨⟨a + 1, by omega, by go_num, HSO4.out, HNE3.out, HSL3.out, HCL3.out, HB3.out, hsz⟩, by simp [intOf]; omega⟩
        · obtain ⟨x, hx⟩ : ∃ x, s[k - 1]? = some x := ⟨_, List.getElem?_eq_getElem (by rw [HSN.out]; omega)⟩
          have hfx : f = x + 1 := by
            rw [hf, behind]
            have : s.getLast? = some x := by rw [List.getLast?_eq_getElem?, HSN.out]; exact hx
            rw [this]
          have hcx := HLAST.out _ _ hx
          have hkk0 : (0 : Int) < (k : Int) := by omega
          have hkk1 : (1 : Int) ≤ (k : Int) := by omega
          have hkk2 : ((k : Int) - 1).toNat = k - 1 := by omega
          have hx6 : (x : Int) ≤ 6 := by omega
          have hx00 : (0 : Int) ≤ (x : Int) := Int.natCast_nonneg _
          have HFX := Lib.hid hfx
          clear hf hx hkz hfx
          go_wp2_with fail
          go_loopw [5, 9] (fun v i wr => ∃ j : Nat, f ≤ j ∧ j ≤ n ∧ i = .int .i64 j ∧ SSOwn2 wr w.heap.size w2.heap.size v (dn ++ (List.range' f (j - f)).map fun i => natI (s ++ [i])) ∧ v.ownBlock ≠ some gL ∧ SSOwnV wr lo (.slice (some ⟨gL, 0, none⟩) L.length capL) vsL L ∧ wr.cell? ⟨gL, 0, none⟩ = some (.slice (some ⟨x0, 0, none⟩) m0 cx0) ∧ Below w.heap.size w wr ∧ w2.heap.size ≤ wr.heap.size) (fun _ i _ => n - (intOf i).toNat)
          case atStart => exact ⟨f, Nat.le_refl _, hfn, by rw [HFX.out]; go_num, by rw [Nat.sub_self]; simpa using HSO.out, HNE.out, HSLr.out, HCLr.out, HB.out, hsz⟩
          case round =>
            obtain ⟨j, hj0, hjn, rfl, hso, hne, hsl, hcl, hb, hsz⟩ := hrel
            have HSO3 := Lib.hid hso
            have HSL3 := Lib.hid hsl
            have HCL3 := Lib.hid hcl
            have HNE3 := Lib.hid hne
            have HB3 := Lib.hid hb
            clear hso hsl hcl hne hb
            by_cases hlt2 : j < n
            · have hji0 : (0 : Int) ≤ (j : Int) := Int.natCast_nonneg _
              have hji1 : (j : Int) < (n : Int) := by omega
              obtain ⟨gL', capL', hv, hgl, hcell⟩ := HSL3.out.cell (HVA.out)
              injection hv with hv1 _ hv3
              injection hv1 with hv1
              injection hv1 with hv1
              subst hv1
              have hcells := HSL3.out.ints HLA.out HVA.out
              have hbl := HSL3.out.lt HLA.out HVA.out
              have HCS := Lib.hid hcells
              have HPL := Lib.hid (PLEN.out j hlt2)
              have HPU := Lib.hid (PUSH.out j hj0)
              obtain ⟨rs, hrs⟩ : ∃ rs, rs = dn ++ (List.range' f (j - f)).map fun i => natI (s ++ [i]) := ⟨_, rfl⟩
              rw [← hrs] at HPL HPU HSO3
              have hcl := HPL.out
              obtain ⟨vs, hvs1, hvs2⟩ := HSO3.out
              have hO1 := own_emptyD wr wr.heap.size (Nat.le_refl _) 3
              have hbA : Below wr.heap.size wr (wr.alloc (Obj.cells #[] 3)) := (Below.refl _ _).alloc (Nat.le_refl _) _
              have hn1 : ∀ (i : Nat) (u : Value), (intCells (natI s))[i]? = some u → (wr.alloc (Obj.cells #[] 3)).cell? ((⟨b, 0, none⟩ : Addr).add i) = some u := fun i u hu => by
                simp only [intCells, List.getElem?_map, Option.map_eq_some_iff] at hu
                obtain ⟨z, hz, rfl⟩ := hu
                rw [Addr.add_lit, Nat.zero_add]
                exact (hbA.cell (p := ⟨b, i, none⟩) (by simp only; omega)).trans (HCS.out i z hz)
              have g1 : (intCells (natI s)).length = k * 1 := by simp [intCells, natI, HSN.out]
              have g2 : ∀ u ∈ intCells (natI s), u.oneCell' = true := fun u hu => by
                simp only [intCells, List.mem_map] at hu
                obtain ⟨z, _, rfl⟩ := hu
                rfl
              have g3 : 0 + k ≤ maxLen := by unfold maxLen; omega
              have g4 : (0 + k) * 8 ≤ 140737488355328 := by omega
              have g5 : wr.heap.size ≤ (wr.alloc (Obj.cells #[] 3)).heap.size := by simp
              have g6 : k + 1 ≤ maxLen := by unfold maxLen; omega
              have g7 : (k + 1) * 8 ≤ 140737488355328 := by omega
              have n3 : rs.length + 1 ≤ maxLen := by unfold maxLen; omega
              have n4 : (rs.length + 1) * 24 ≤ 140737488355328 := by omega
              have STEP : Hid (∀ (v1 : Value) (w1 : World) (v2 : Value) (w2 : World), w1.ownsRow wr.heap.size 3 1 v1 k (intCells (natI s)) → World.grownBy (wr.alloc (Obj.cells #[] 3)) w1 (some wr.heap.size) →
                  w2.ownsRow wr.heap.size 3 1 v2 (k + 1) (intCells (natI s) ++ [.int .i64 (j : Int)]) → World.grownBy (w1.alloc (Obj.cells #[.int .i64 (j : Int)] 3)) w2 v1.ownBlock → _) := Lib.hid (fun v1 w1' v2 w2' o1 h1 o2 h2 =>
                    push_step HB3.out hsz hvs1 hvs2 HNE3.out HSL3.out (gL := gL) rfl HCL3.out hx0 (sets_below h1 o1 h2) (sets_own HSN.out o2))
              have HO1 := Lib.hid hO1
              have HN1 := Lib.hid hn1
              have G1 := Lib.hid g1
              have G2 := Lib.hid g2
              clear hO1 hn1 g1 g2 hbA hvs1 hvs2 hrs hcells hv3
              go_wp2_with (at_builtin; refine wpList_append_own _ rfl _ _ 43 rfl wr.heap.size 3 i0 (.int .i64 0) 1 8 Try.underlying43 hi hz0 hz1 hz2 rfl (by decide) _ _ _ rfl HO1.out ⟨b, 0, none⟩ k _ (intCells (natI s)) rfl G1.out HN1.out G2.out g3 g4 g5 ?_)
              intro v1 w3 hown1 hgrow1 _
              have hg1 : World.grownBy (wr.alloc (Obj.cells #[] 3)) w3 (some wr.heap.size) := hgrow1
              have hs1 : wr.heap.size ≤ (w3.alloc (Obj.cells #[.int .i64 (j : Int)] 3)).heap.size := by have := hg1.size; simp at this ⊢; omega
              have HW1 := Lib.hid hown1
              have HG1 := Lib.hid hg1
              clear hown1 hgrow1 hg1
              go_wp2_with (at_builtin; refine wpList_append_own _ rfl _ _ 43 rfl wr.heap.size 3 i0 (.int .i64 0) 1 8 Try.underlying43 hi hz0 hz1 hz2 rfl (by decide) _ _ _ rfl (HW1.out.alloc _) ⟨w3.heap.size, 0, none⟩ 1 1 [.int .i64 (j : Int)] rfl rfl (one_cell _ _ rfl _ _) (fun u hu => by rw [List.mem_singleton] at hu; rw [hu]; rfl) g6 g7 hs1 ?_)
              intro v2 w4 hown2 hgrow2 _
              obtain ⟨hq1, hq2, hq3⟩ := STEP.out v1 w3 v2 w4 HW1.out HG1.out hown2 hgrow2
              obtain ⟨A2, m2, c2, rfl⟩ := own_sl hown2
              have HQ1 := Lib.hid hq1
              have HQ3 := Lib.hid hq3
              clear hq1 hq3 hown2 hgrow2 HW1 HG1 hs1
              go_wp2_with (at_builtin; refine wpList_append_own _ rfl _ _ 26 rfl w.heap.size 43 i1 (.slice none 0 0) 1 24 Try.underlying26 hj hy0 hy1 hy2 rfl (by decide) _ _ _ rfl HQ1.out ⟨w4.heap.size, 0, none⟩ 1 1 [_] rfl rfl (one_cell _ _ rfl _ _) (fun u hu => by rw [List.mem_singleton] at hu; rw [hu]; rfl) n3 n4 hq2 ?_)
              intro v3 w5 hown3 hgrow3 _
              have HF := Lib.hid (HQ3.out w5 v3 hown3 hgrow3)
              clear hown3 hgrow3 HQ3 HQ1
              obtain ⟨f1, f2, f3, f4, f5, f6⟩ := HF.out
              rw [HPU.out] at f1
              have F1 := Lib.hid f1
              have F2 := Lib.hid f2
              have F3 := Lib.hid f3
              have F4 := Lib.hid f4
              have F6 := Lib.hid f6
              clear f1 f2 f3 f4 f6 HF
              go_wp2
              exact ⟨⟨j + 1, by omega, by omega, by go_num, F1.out, F2.out, F3.out, F6.out, F4.out, f5⟩, by simp [intOf]; omega⟩
            · have hso := HSO3.out
              rw [show j = n by omega, ← HDN.out] at hso
              have HSO4 := Lib.hid hso
              clear hso
              go_wp2
              exact ⟨⟨a + 1, by omega, by go_num, HSO4.out, HNE3.out, HSL3.out, HCL3.out, HB3.out, hsz⟩, by simp [intOf]; omega⟩
      · have hso := HSO.out.one (by omega)
        have hka : a = K := by omega
        rw [hka, HALL.out] at hso
        obtain ⟨vs9, q1, q2⟩ := hso
        have HP9 : Hid (∀ (i : Nat) (r : List Int), ((setsB n (k + 1)).map natI)[i]? = some r → ∃ u, vs9[i]? = some u ∧ Pointed u r.length) := Lib.hid (fun i r hr => by
          obtain ⟨u, hu, hq⟩ := q2 i r hr
          refine ⟨u, hu, own_pointed hq ?_⟩
          rw [List.getElem?_map, Option.map_eq_some_iff] at hr
          obtain ⟨s, hs, rfl⟩ := hr
          rw [natI_len, ((sets_size n hn (k + 1) hk6).2 s (List.mem_of_getElem? hs)).1]
          omega)
        have HV9 : Hid (SSOwnV _ _ _ _ _) := Lib.hid ⟨q1, q2⟩
        clear q1 q2
        go_wp2
        go_ret
        exact ⟨_, vs9, rfl, HV9.out, HP9.out, HB.out⟩
end Go.Proofs.Ytbmihbbpdmpmpaa
