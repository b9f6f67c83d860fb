/- laws.FnFactors: the walk. -/
import Derived.Test.YtmehdngibbilaaaLOrdLw
namespace Go.Proofs.Ytmehdngibbilaaa
open Go.RowKit

theorem prodL_take {F : List Nat} {k x : Nat} (h : F[k]? = some x) : prodL (F.take (k + 1)) = prodL (F.take k) * x := by
  rw [List.take_add_one, h, prodL_append]
  simp [prodL]
theorem prodL_le {F : List Nat} (h : ∀ x ∈ F, 2 ≤ x) (k : Nat) : prodL (F.take k) ≤ prodL F := by
  have e : prodL F = prodL (F.take k) * prodL (F.drop k) := by rw [← prodL_append, List.take_append_drop]
  have hp : ∀ l : List Nat, (∀ x ∈ l, 2 ≤ x) → 0 < prodL l := fun l => by
    induction l with
    | nil => exact fun _ => by simp [prodL]
    | cons x l ih =>
      intro hx
      have h1 := hx x (by simp)
      have h2 := ih fun y hy => hx y (by simp [hy])
      rw [prodL]
      exact Nat.mul_pos (by omega) h2
  rw [e]
  exact Nat.le_mul_of_pos_right _ (hp _ fun x hx => h x (List.mem_of_mem_drop hx))
section
variable {m M : Nat} {es : List (Int × Int)} {A : Option Addr} {c : Nat} {W : World}
theorem cLap (hm : M = m + 1) (hB : graphB (M : Int) es = true) (h1 : EdgeS W W.heap.size A es) :
    Calls Try.prog 18 #[.agg #[.int .i64 (M : Int), .slice A es.length c]] W (fun e w' => ∃ (A2 : Option Addr), e = .returned (.slice A2 M M) ∧ IntSS w' w'.heap.size A2 (lapB (M : Int) es) ∧ Below W.heap.size W w') := by
  subst hm
  refine (implLap_yes (m + 1) A c es W hB h1).mono ?_
  rintro e w' ⟨g, rfl, hg, hr, hb⟩
  have hlm := lapM_len (m + 1) es
  have hr2 : RowsTo w' g w'.heap.size (lapM (m + 1) es) (lapM (m + 1) es).length := by rw [hlm]; exact hr
  have hgl : g < w'.heap.size := by obtain ⟨_, _, h, _⟩ := hr; exact h.lt
  refine ⟨some ⟨g, 0, none⟩, rfl, ?_, hb⟩
  rw [lapB_t hB, Int.toNat_natCast]
  exact (OwnSS.of_rows hr2 hgl (Nat.le_refl _)).ints
theorem cInvF (hm : M = m + 1) (hB : graphB (M : Int) es = true) (hG : GrL m es) {X : Option Addr} {cx : Nat} (hc : M ≤ cx) (h1 : IntSS W W.heap.size X (lapB (M : Int) es)) :
    Calls Try.prog 17 #[.slice X M cx] W (fun e w' => ∃ (A2 : Option Addr) (c2 : Nat), e = .returned (.slice A2 M c2) ∧ OwnI w' W.heap.size A2 (invB (lapB (M : Int) es)) ∧ Below W.heap.size W w') := by
  subst hm
  have hl := (lap_law hB hG).1
  have h5 := hG.m5
  have e : (lapB ((m + 1 : Nat) : Int) es).length = m + 1 := by rw [lapB_rows hB, rowsF_len]
  have h := implInv X cx (lapB ((m + 1 : Nat) : Int) es) W (by omega) (by omega) (fun r hr => by
    rw [lapB_rows hB] at hr
    obtain ⟨i, _, rfl⟩ := List.mem_map.1 hr
    simp
    omega) h1
  rw [e] at h
  refine h.mono ?_
  rintro e w' ⟨A2, c2, rfl, ho, hb⟩
  exact ⟨A2, c2, by rw [hl], ho, hb⟩
end
set_option maxRecDepth 100000 in
set_option maxHeartbeats 8000000 in
theorem lawFactors (A0 : Option Addr) (c0 : Nat) (xs : List Int) (w : World) (hn : xs.length ≤ 9223372036854775807) (hS : CodeS w w.heap.size A0 xs) :
    Calls Try.prog 3 #[.slice A0 xs.length c0] w fun e w' => e = .returned (.bool true) ∧ Below w.heap.size w w' := by
  by_cases hs : xs.length ≤ 1048576
  · have hsi : (xs.length : Int) ≤ 1048576 := by omega
    have HS := Lib.hid hS
    have HG := Lib.hid (makeGraph_any w A0 c0 xs hs hS)
    clear hS
    go_enter Try.func3, Try.ntmps3
    go_wp2_with fail
    refine HG.out.mono ?_
    rintro e w1 ⟨M, A, c, es, rfl, hM2, hM5, hel, hg, ho, hb1⟩
    obtain ⟨W1, hW1⟩ : ∃ X : World, X = w1.alloc (Obj.cells #[.int .i64 (M : Int), .slice A es.length c] 25) := ⟨_, rfl⟩
    have G1 := Lib.hid (show GLaw w W1 w1.heap.size M A c es from by
      rw [hW1]
      exact ⟨hb1.alloc hb1.size _, Blk.new w1 _ _, ho.below ((Below.refl _ _).alloc (Nat.le_refl _) _)⟩)
    have HW1 := Lib.hid hW1
    have HGR := Lib.hid hg
    obtain ⟨m, hm⟩ : ∃ m, M = m + 1 := ⟨M - 1, by omega⟩
    have HMM := Lib.hid hm
    have HGL := Lib.hid (show GrL m es from by
      obtain ⟨m', e, h⟩ := grl_of hg
      obtain rfl : m' = m := by omega
      exact h)
    obtain ⟨x0, x1, x2, x3, x4⟩ := box_facts G1.out.box
    clear ho hb1 hW1 hg HG hm
    have hen : es.length ≤ 1048576 := by omega
    have hM6 : M ≤ 6 := by omega
    have CO := Lib.hid (fun (W : World) (h1 : EdgeS W W.heap.size A es) => implOrdG (M : Int) A c es W hen h1)
    have CT := Lib.hid (fun (W : World) (h1 : EdgeS W W.heap.size A es) => implTrees (M : Int) A c es W hen h1)
    have CG := Lib.hid (fun (W : World) (h1 : EdgeS W W.heap.size A es) => implGraphOk (M : Int) A c es W hen h1)
    have CY := Lib.hid (fun (W : World) (h1 : EdgeS W W.heap.size A es) => implCyc (M : Int) A c es W hen h1)
    rw [trees_nat HMM.out HGR.out HGL.out] at CO CT
    rw [HGR.out] at CG
    obtain ⟨f1, f2, f3⟩ := fac_law HGL.out
    have hds := det_small HGL.out
    have hcy : cycC (M : Int) es = decide (((facB 1 ((List.range m).map fun k => gSets m (redA 0 es) (k + 1))).filter fun x => decide (1 < x)).length ≤ 1) := by
      have hm := HMM.out
      have hB := HGR.out
      rw [hm] at hB ⊢
      rw [cycC, hB, facC_nat hB HGL.out, natI_len, Bool.true_and]
    have LW := (show (invB (lapB (M : Int) es)).length = M ∧ (invB (lapB (M : Int) es))[M - 1]? = some 0 from by
      have hm := HMM.out
      have hB := HGR.out
      rw [hm] at hB ⊢
      exact lap_law hB HGL.out)
    obtain ⟨T, hT⟩ : ∃ T, T = gSets m (redA 0 es) m := ⟨_, rfl⟩
    rw [← hT] at CO CT f3 hds
    obtain ⟨F, hF⟩ : ∃ F, F = (facB 1 ((List.range m).map fun k => gSets m (redA 0 es) (k + 1))).filter fun x => decide (1 < x) := ⟨_, rfl⟩
    rw [← hF] at f1 f2 f3 hcy
    have HFF := Lib.hid hF
    rw [hcy] at CY
    have HF1 := Lib.hid f1
    have HF2 := Lib.hid (List.pairwise_iff_getElem.1 f2)
    have HF3 := Lib.hid f3
    have HPL := Lib.hid (fun k => prodL_le f1 k)
    have HDS := Lib.hid hds
    obtain ⟨l1, l2⟩ := LW
    have HL1 := Lib.hid l1
    have HL2 := Lib.hid l2
    have hFX : F.length ≤ 6 := by
      rw [hF]
      have hm5 := HGL.out.m5
      refine Nat.le_trans (List.length_filter_le _ _) ?_
      rw [facB_len]
      simp
      omega
    clear hF hT f1 f2 f3 hcy l1 l2 hds hM5 hel
    go_wp2_with fail
    rw [← HW1.out]
    refine (cFac HMM.out HGR.out HGL.out HFF.out G1.out.own.edges).mono ?_
    rintro e w2 ⟨Q, d1, rfl, ho, hb⟩
    have G2 := Lib.hid (G1.out.next hb)
    have O2 := Lib.hid (ho.mono (base' := w.heap.size) G1.out.old.size)
    clear hb ho x0 x1 x2 x3 x4 G1 HW1
    go_wp2
    have HB2 := Lib.hid (Below.refl w2.heap.size w2)
    go_loopw [5, 6, 7, 18] (fun n _ _ i wr => ∃ k : Nat, k ≤ F.length ∧ i = .int .i64 k ∧ n = .int .i64 (prodL (F.take k) : Nat) ∧ wr = w2) (fun _ _ _ i _ => F.length - (intOf i).toNat)
    case atStart => exact ⟨0, Nat.zero_le _, rfl, rfl, rfl⟩
    case round =>
      obtain ⟨k, hk, rfl, rfl, rfl⟩ := hrel
      have hk0 : (0 : Int) ≤ (k : Int) := Int.natCast_nonneg _
      obtain ⟨x0, x1, x2, x3, x4⟩ := box_facts G2.out.box
      by_cases hlt : k < F.length
      · have hk1 : (k : Int) < (F.length : Int) := by omega
        obtain ⟨z, hz⟩ : ∃ z, F[k]? = some z := ⟨_, List.getElem?_eq_getElem hlt⟩
        have hzi := natI_at hz
        obtain ⟨b5, o5, hQ5, hb5, hl5, hc5⟩ := O2.out (by rw [natI_len]; omega)
        subst hQ5
        have hcz := (hc5 _ _ hzi).1
        have hz2 := HF1.out z (List.mem_of_getElem? hz)
        have t1 : ¬ ((z : Int) < 2) := by omega
        have hpt := prodL_take hz
        have hple := HPL.out (k + 1)
        have hpf := HF3.out
        have hdd := HDS.out
        have hpw : IntKind.i64.wrap ((prodL (F.take k) : Nat) * (z : Int)) = (prodL (F.take (k + 1)) : Nat) := by
          have e : ((prodL (F.take k) : Nat) : Int) * (z : Int) = ((prodL (F.take (k + 1)) : Nat) : Int) := by rw [hpt, Int.natCast_mul]
          rw [e, IntKind.wrap_i64]
          omega
        by_cases hk00 : k = 0
        · have z1 : ¬ ((0 : Int) < (k : Int)) := by omega
          clear hpt hple hpf hdd hz hzi hc5 hk00
          go_wp2
          exact ⟨⟨k + 1, by omega, by go_num, rfl, trivial⟩, by simp [intOf]; omega⟩
        · have z1 : (0 : Int) < (k : Int) := by omega
          have z2 : IntKind.i64.wrap ((k : Int) - 1) = ((k - 1 : Nat) : Int) := by rw [IntKind.wrap_i64]; omega
          have z3 : (0 : Int) ≤ ((k - 1 : Nat) : Int) := Int.natCast_nonneg _
          have z4 : ((k - 1 : Nat) : Int) < (F.length : Int) := by omega
          obtain ⟨p, hp⟩ : ∃ p, F[k - 1]? = some p := ⟨_, List.getElem?_eq_getElem (by omega)⟩
          have hcp := (hc5 _ _ (natI_at hp)).1
          have hp2 := HF1.out p (List.mem_of_getElem? hp)
          have hdv : p ∣ z := by
            have h := HF2.out (k - 1) k (by omega) hlt (by omega)
            rw [List.getElem?_eq_getElem (by omega)] at hp hz
            injection hp with hp
            injection hz with hz
            rw [hp, hz] at h
            exact h
          have z5 : (z : Int).tmod (p : Int) = 0 := by
            obtain ⟨q, rfl⟩ := hdv
            rw [Int.natCast_mul, Int.mul_tmod_right]
          have z6 : (p : Int) ≠ 0 := by omega
          have z7 : ((p : Int) == 0) = false := by simp; omega
          clear hpt hple hpf hdd hz hzi hp hdv hc5
          go_wp2
          exact ⟨⟨k + 1, by omega, by go_num, rfl, trivial⟩, by simp [intOf]; omega⟩
      · have hkF : k = F.length := by omega
        have HPF := Lib.hid (show prodL (F.take k) = T by rw [hkF, List.take_of_length_le (Nat.le_refl _)]; exact HF3.out)
        rw [HPF.out]
        clear hkF
        go_wp2_with fail
        refine (cLap HMM.out HGR.out G2.out.own.edges).mono ?_
        rintro e w3 ⟨Q3, rfl, ho, hb⟩
        have G3 := Lib.hid (G2.out.next hb)
        have HS3 := Lib.hid ho
        clear hb ho x0 x1 x2 x3 x4
        obtain ⟨x0, x1, x2, x3, x4⟩ := box_facts G3.out.box
        go_wp2_with fail
        refine (cInvF HMM.out HGR.out HGL.out (Nat.le_refl _) HS3.out).mono ?_
        rintro e w4 ⟨Q4, d4, rfl, ho, hb⟩
        have G4 := Lib.hid (G3.out.next hb)
        have O44 := Lib.hid (ho.mono (base' := w.heap.size) G3.out.old.size)
        clear hb ho x0 x1 x2 x3 x4 HS3
        obtain ⟨x0, x1, x2, x3, x4⟩ := box_facts G4.out.box
        go_wp2_with fail
        refine (CG.out w4 G4.out.own.edges).mono ?_
        rintro e w5 ⟨rfl, hb⟩
        have G5 := Lib.hid (G4.out.next hb)
        have O45 := Lib.hid (O44.out.below hb)
        clear hb x0 x1 x2 x3 x4 G4 O44
        obtain ⟨x0, x1, x2, x3, x4⟩ := box_facts G5.out.box
        go_wp2_with fail
        refine (CO.out w5 G5.out.own.edges).mono ?_
        rintro e w6 ⟨rfl, hb⟩
        have G6 := Lib.hid (G5.out.next hb)
        have O46 := Lib.hid (O45.out.below hb)
        clear hb x0 x1 x2 x3 x4 G5 O45
        obtain ⟨x0, x1, x2, x3, x4⟩ := box_facts G6.out.box
        go_wp2_with fail
        refine (CT.out w6 G6.out.own.edges).mono ?_
        rintro e w7 ⟨rfl, hb⟩
        have G7 := Lib.hid (G6.out.next hb)
        have O47 := Lib.hid (O46.out.below hb)
        clear hb x0 x1 x2 x3 x4 G6 O46
        obtain ⟨x0, x1, x2, x3, x4⟩ := box_facts G7.out.box
        obtain ⟨b6, o6, hQ6, hb6, hl6, hc6⟩ := O47.out (by rw [HL1.out]; omega)
        subst hQ6
        have hcz := (hc6 _ _ HL2.out).1
        have y1 : IntKind.i64.wrap ((M : Int) - 1) = ((M - 1 : Nat) : Int) := by rw [IntKind.wrap_i64]; omega
        have y2 : (0 : Int) ≤ ((M - 1 : Nat) : Int) := Int.natCast_nonneg _
        have y3 : ((M - 1 : Nat) : Int) < (M : Int) := by omega
        clear hc6
        go_wp2_with fail
        refine (CY.out w7 G7.out.own.edges).mono ?_
        rintro e w8 ⟨rfl, hb⟩
        have G8 := Lib.hid (G7.out.next hb)
        have y4 : (decide (F.length ≤ 1) == decide ((F.length : Int) ≤ 1)) = true := by
          have e : decide (F.length ≤ 1) = decide ((F.length : Int) ≤ 1) := decide_eq_decide.2 (by omega)
          rw [e]
          simp
        clear hb
        go_wp2
        go_ret
        exact ⟨rfl, G8.out.old⟩
  · have hsi : ¬ ((xs.length : Int) ≤ 1048576) := by omega
    go_enter Try.func3, Try.ntmps3
    go_wp2
    go_ret
    exact ⟨rfl, Below.refl _ _⟩
end Go.Proofs.Ytmehdngibbilaaa
