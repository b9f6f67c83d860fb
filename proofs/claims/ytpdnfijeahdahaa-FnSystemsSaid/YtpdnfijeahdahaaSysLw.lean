/- laws.FnSystems: the walk. -/
import Derived.Test.YtpdnfijeahdahaaSysF
import Derived.Test.YtpdnfijeahdahaaBM
import Derived.Test.YtpdnfijeahdahaaEqvI
import Derived.Test.YtpdnfijeahdahaaWinI
import Derived.Test.YtpdnfijeahdahaaCntI
import Derived.Test.YtpdnfijeahdahaaMakeSm
import Derived.Test.YtpdnfijeahdahaaMakeFw
import Derived.Test.YtpdnfijeahdahaaMakeEf
namespace Go.Proofs.Ytpdnfijeahdahaa
open Go.RowKit

set_option maxRecDepth 100000 in
set_option maxHeartbeats 8000000 in
theorem lawSystems (A0 : Option Addr) (c0 : Nat) (xs : List Int) (w : World) (hn : xs.length ≤ 9223372036854775807) (hS : CodeS w w.heap.size A0 xs) :
    Calls Try.prog 3 #[.slice A0 xs.length c0] w fun e w' => e = .returned (.bool true) ∧ Below w.heap.size w w' := by
  by_cases hs : xs.length ≤ 1048576
  · have hsi : (xs.length : Int) ≤ 1048576 := by omega
    have HS := Lib.hid hS
    have HG := Lib.hid (makeSmall_any w A0 c0 xs hs hS)
    clear hS
    go_enter Try.func3, Try.ntmps3
    go_wp2_with fail
    refine HG.out.mono ?_
    rintro e w1 ⟨M, A, c, es, rfl, hM2, hM4, hel, hg, ho, hb1⟩
    obtain ⟨W1, hW1⟩ : ∃ X : World, X = w1.alloc (Obj.cells #[.int .i64 (M : Int), .slice A es.length c] 25) := ⟨_, rfl⟩
    have G1 := Lib.hid (show GLaw w W1 w1.heap.size M A c es from by
      rw [hW1]
      exact ⟨hb1.alloc hb1.size _, Blk.new w1 _ _, ho.below ((Below.refl _ _).alloc (Nat.le_refl _) _)⟩)
    have HW1 := Lib.hid hW1
    have HGR := Lib.hid hg
    obtain ⟨x0, x1, x2, x3, x4⟩ := box_facts G1.out.box
    clear ho hb1 hW1 hg HG
    have HD := Lib.hid (makeFew_any W1 20 M (by omega) A es.length c A0 c0 xs (by omega) (by omega) hs ((HS.out.keep G1.out.old).up G1.out.old.size))
    go_wp2_with fail
    rw [← HW1.out]
    refine HD.out.mono ?_
    rintro e w2 ⟨D, cd, d, rfl, HDL, hbd, hdg, hod, hb2⟩
    have hdl := HDL.out
    have G2 := Lib.hid (G1.out.next hb2)
    have HOD := Lib.hid (hod.mono (base' := w.heap.size) G1.out.old.size)
    have HBD := Lib.hid hbd
    clear hod hb2 hbd HD G1 x0 x1 x2 x3 x4 HW1
    obtain ⟨x0, x1, x2, x3, x4⟩ := box_facts G2.out.box
    have hM6 : M ≤ 6 := by omega
    have hen : es.length ≤ 1048576 := by omega
    have hM0 : 0 < M := by omega
    have hdv := divB_ofC (m := 60) HGR.out hdl (fun x hx => by have := HBD.out x hx; omega)
    have hd7 : degB d d.length ≤ 7 := by rw [hdl]; omega
    have hdlo : -1000 ≤ degB d d.length := by
      have h := deg_lim (xs := d) (fun u => by have := getD_boundC HBD.out (by omega) (by omega) u; omega) M (by omega)
      rw [hdl]
      omega
    have hex := red_ex A D M es d w2 hdv G2.out.own.edges HOD.out.ints
    have HXE := Lib.hid (show ∀ e, divB 60 (M : Int) es e = true → ∃ f, IsRed M es e 0 f from fun e he => red_ex A (some ⟨w2.heap.size, 0, none⟩) M es e (w2.alloc (.cells (intCells e).toArray 3)) he (G2.out.own.edges.up_ ((Below.refl _ _).alloc (Nat.le_refl _) _)) (IntS.of_blk (Blk.new w2 _ _) (Blk.new w2 _ _).lt))
    have HSM := Lib.hid (fun (e : List Int) (h : e ∈ einB (M : Int) es d) => sys_mem hdv hd7 h)
    have HSS := Lib.hid (sys_some hdv hd7 hex)
    have HSO := Lib.hid (sys_sorted (M : Int) es d)
    have HSI := Lib.hid (fun (e : List Int) (h : e ∈ effB M (degB d d.length)) => sys_in hdv hd7 h (HXE.out e (eff_div HGR.out hd7 h)))
    have HEL := Lib.hid (fun (e : List Int) (h : e ∈ effB M (degB d d.length)) => (effB_mem M _ e h).1)
    have HLL := Lib.hid (einB_few (M : Int) es d).1
    have hsm := effB_small (n := M) hM6 hd7
    have EI := fun (W : World) (h1 : EdgeS W W.heap.size A es) (h2 : IntS W W.heap.size D d) => implEin (M : Int) A D c cd es d W hen (by omega) h1 h2
    have CE := fun (W : World) (h1 : EdgeS W W.heap.size A es) (h2 : IntS W W.heap.size D d) => implCnt (M : Int) A D c cd es d W hen (by omega) h1 h2
    have WN := fun (W : World) (h1 : EdgeS W W.heap.size A es) (h2 : IntS W W.heap.size D d) => Lib.hid (implWin (M : Int) A D c cd es d W hen (by omega) h1 h2)
    have EQ := fun (W : World) (E : Option Addr) (ce : Nat) (e : List Int) (he : e.length = M) (h1 : EdgeS W W.heap.size A es) (h2 : IntS W W.heap.size D d) (h3 : IntS W W.heap.size E e) => Lib.hid (show Calls Try.prog 12 #[.agg #[.int .i64 (M : Int), .slice A es.length c], .slice D M cd, .slice E M ce] W (fun e' w' => e' = .returned (.bool (eqvB (M : Int) es d e)) ∧ Below W.heap.size W w') by
      have h := implEqv (M : Int) A D E c cd ce es d e W hen (by omega) (by omega) h1 h2 h3
      rw [hdl, he] at h
      exact h)
    have ME := fun (W : World) (h2 : IntS W W.heap.size D d) => makeEff_any M (.slice A es.length c) D cd d W ⟨_, _, _, rfl⟩ hM0 hM6 (by omega) hdlo hd7 h2
    have SA := fun (W : World) (E F : Option Addr) (ce cf : Nat) (r s : List Int) (hr : r.length = M) (hs : s.length = M) (h1 : IntS W W.heap.size E r) (h2 : IntS W W.heap.size F s) => Lib.hid (show Calls Try.prog 15 #[.slice E M ce, .slice F M cf] W (fun e w' => e = .returned (.bool (decide (r = s))) ∧ w' = W) from by
      have h := sameI_any E F ce cf r s W (by omega) (by omega) h1 h2
      rw [hr, hs] at h
      exact h)
    have LE := fun (W : World) (E F : Option Addr) (ce cf : Nat) (r s : List Int) (hr : r.length = M) (hs : s.length = M) (hl : lexLt r s) (h1 : IntS W W.heap.size E r) (h2 : IntS W W.heap.size F s) => Lib.hid (show Calls Try.prog 13 #[.slice E M ce, .slice F M cf] W (fun e w' => e = .returned (.bool true) ∧ w' = W) from by
      have h := less_any E F ce cf r s W (by omega) hl h1 h2
      rw [hr, hs] at h
      exact h)
    have EF := fun (W : World) (E : Option Addr) (ce : Nat) (r : List Int) (hr : r.length = M) (hp : posAll r = true) (h1 : IntS W W.heap.size E r) => Lib.hid (show Calls Try.prog 11 #[.slice E M ce] W (fun e w' => e = .returned (.bool true) ∧ Below W.heap.size W w') from by
      have h := implEff E ce r W (by omega) h1
      rw [hr, hp] at h
      exact h)
    rw [ein_yes hdv hd7] at EI
    have hcn : cntB (M : Int) es d = ((einB (M : Int) es d).length : Int) := cntB_t (ein_yes hdv hd7)
    rw [hcn] at CE
    obtain ⟨L, hL⟩ : ∃ L, L = einB (M : Int) es d := ⟨_, rfl⟩
    obtain ⟨F, hF⟩ : ∃ F, F = effB M (degB d d.length) := ⟨_, rfl⟩
    rw [← hL] at EI CE HSM HSS HSO HSI HLL
    rw [← hF] at ME HSI HEL hsm HSM
    rw [hdl] at EI CE WN ME
    have HM4 := Lib.hid hM4
    obtain ⟨wn, hwn⟩ : ∃ b, b = winB (M : Int) es d := ⟨_, rfl⟩
    rw [← hwn] at WN HSS
    have HLX := Lib.hid (show (L.length : Int) ≤ 32768 by have := HLL.out; omega)
    have HFX := Lib.hid (show (F.length : Int) ≤ 262144 by omega)
    clear hel hM4 hM6 hen hM0 hdv hd7 hdlo hex HXE hcn hL hF hwn hsm hdg
    -- EffectiveIn
    have EI2 := Lib.hid (EI w2 G2.out.own.edges HOD.out.ints)
    clear EI
    go_wp2_with fail
    refine EI2.out.mono ?_
    rintro e w3 ⟨B, cB, rfl, hol, hb3⟩
    have G3 := Lib.hid (G2.out.next hb3)
    have D3 := Lib.hid (HOD.out.below hb3)
    have L3 := Lib.hid (show IntSS w3 w3.heap.size B L from hol.ints)
    clear hol hb3 G2 HOD x0 x1 x2 x3 x4 EI2
    obtain ⟨x0, x1, x2, x3, x4⟩ := box_facts G3.out.box
    have CE2 := Lib.hid (CE w3 G3.out.own.edges D3.out.ints)
    clear CE
    go_wp2_with fail
    refine CE2.out.mono ?_
    rintro e w4 ⟨rfl, hb4⟩
    have G4 := Lib.hid (G3.out.next hb4)
    have D4 := Lib.hid (D3.out.below hb4)
    have L4 := Lib.hid (L3.out.up_ hb4)
    clear hb4 G3 D3 L3 x0 x1 x2 x3 x4 CE2
    obtain ⟨x0, x1, x2, x3, x4⟩ := box_facts G4.out.box
    have t0 : ((L.length : Int) != (L.length : Int)) = false := by simp
    go_wp2_with fail
    refine (WN w4 G4.out.own.edges D4.out.ints).out.mono ?_
    rintro e w5 ⟨rfl, hb5⟩
    have G5 := Lib.hid (G4.out.next hb5)
    have D5 := Lib.hid (D4.out.below hb5)
    have L5 := Lib.hid (L4.out.up_ hb5)
    clear hb5 G4 D4 L4 x0 x1 x2 x3 x4 t0 WN
    have t1 : (!(decide (0 < L.length) == wn)) = false := by
      rw [HSS.out]
      simp
    obtain ⟨x0, x1, x2, x3, x4⟩ := box_facts G5.out.box
    go_wp2_with fail
    clear t1 x0 x1 x2 x3 x4
    have HB5 := Lib.hid (Below.refl w5.heap.size w5)
    have tM : ((M : Int) != (M : Int)) = false := by simp
    go_loopw [49] (fun i wr => ∃ k : Nat, k ≤ L.length ∧ i = .int .i64 k ∧ Below w5.heap.size w5 wr) (fun i _ => L.length - (intOf i).toNat)
    case atStart => exact ⟨0, Nat.zero_le _, rfl, HB5.out⟩
    case round =>
      obtain ⟨k, hk, rfl, hb⟩ := hrel
      have G6 := Lib.hid (G5.out.next hb)
      have D6 := Lib.hid (D5.out.below hb)
      have L6 := Lib.hid (L5.out.up_ hb)
      have HB6 := Lib.hid hb
      clear hb
      have hk0 : (0 : Int) ≤ (k : Int) := Int.natCast_nonneg _
      by_cases hlt : k < L.length
      · have hk1 : (k : Int) < (L.length : Int) := by omega
        obtain ⟨bL, oL, e, Ai, ci, rfl, hbL, he, hcell, hints⟩ := L6.out.at_ hlt
        obtain ⟨m1, m2, m3, m4, m5⟩ := HSM.out e (List.mem_of_getElem? he)
        rw [m3] at hcell
        have HI := Lib.hid hints
        have HM3 := Lib.hid m3
        have EFX := Lib.hid (EF wr Ai ci e m3 m4 hints).out
        have hq := fun (W : World) (h1 : EdgeS W W.heap.size A es) (h2 : IntS W W.heap.size D d) (h3 : IntS W W.heap.size Ai e) => (EQ W Ai ci e m3 h1 h2 h3).out
        rw [m5] at hq
        have HEQ := Lib.hid hq
        obtain ⟨x0, x1, x2, x3, x4⟩ := box_facts G6.out.box
        have HE := Lib.hid he
        clear he m1 m2 m3 m4 m5 hints hq
        go_wp2_with fail
        refine EFX.out.mono ?_
        rintro e6 w6 ⟨rfl, hb6⟩
        have G7 := Lib.hid (G6.out.next hb6)
        have D7 := Lib.hid (D6.out.below hb6)
        have L7 := Lib.hid (L6.out.up_ hb6)
        have HI7 := Lib.hid (HI.out.up_ hb6)
        have HB7 := Lib.hid (HB6.out.trans (hb6.mono HB6.out.size))
        clear hb6 x0 x1 x2 x3 x4 G6 D6 L6 HI HB6 EFX hcell
        obtain ⟨x0, x1, x2, x3, x4⟩ := box_facts G7.out.box
        go_wp2_with fail
        refine (HEQ.out w6 G7.out.own.edges D7.out.ints HI7.out).mono ?_
        rintro e7 w7 ⟨rfl, hb7⟩
        have HB8 := Lib.hid (HB7.out.trans (hb7.mono HB7.out.size))
        have L8 := Lib.hid (L7.out.up_ hb7)
        have HI8 := Lib.hid (HI7.out.up_ hb7)
        clear hb7 x0 x1 x2 x3 x4 G7 D7 L7 HI7 HB7 HEQ
        by_cases hk00 : k = 0
        · have z1 : ¬ ((0 : Int) < (k : Int)) := by omega
          have z5 : ¬ (0 < k) := by omega
          have hi3 : (L.length : Int) ≤ 32768 := HLX.out
          clear hk00
          go_wp2
          exact ⟨⟨k + 1, by omega, by go_num, HB8.out⟩, by simp [intOf]; omega⟩
        · have z1 : (0 : Int) < (k : Int) := by omega
          have z2 : IntKind.i64.wrap ((k : Int) - 1) = ((k - 1 : Nat) : Int) := by rw [IntKind.wrap_i64]; have := HLX.out; omega
          have z3 : (0 : Int) ≤ ((k - 1 : Nat) : Int) := Int.natCast_nonneg _
          have z4 : ((k - 1 : Nat) : Int) < (L.length : Int) := by omega
          obtain ⟨bL', oL', p, Aj, cj, hA2, hbL2, hp, hcell2, hints2⟩ := L8.out.at_ (k := k - 1) (by omega)
          obtain ⟨rfl, rfl⟩ : bL = bL' ∧ oL = oL' := by simpa using hA2
          have mp := (HSM.out p (List.mem_of_getElem? hp)).2.2.1
          rw [mp] at hcell2
          have hlx : lexLt p e := by
            have h := List.pairwise_iff_getElem.1 HSO.out (k - 1) k (by omega) hlt (by omega)
            have g1 : L[k - 1] = p := by
              have := hp
              rw [List.getElem?_eq_getElem (by omega)] at this
              injection this
            have g2 : L[k] = e := by
              have := HE.out
              rw [List.getElem?_eq_getElem hlt] at this
              injection this
            rw [g1, g2] at h
            exact h
          have LX := Lib.hid (LE w7 Aj Ai cj ci p e mp HM3.out hlx hints2 HI8.out).out
          clear hA2 hp hints2 hlx mp HE
          go_wp2_with fail
          refine LX.out.mono ?_
          rintro e8 w8 ⟨rfl, rfl⟩
          have hi3 : (L.length : Int) ≤ 32768 := HLX.out
          clear LX hcell2
          go_wp2
          exact ⟨⟨k + 1, by omega, by go_num, HB8.out⟩, by simp [intOf]; omega⟩
      · clear hk0
        have MX := Lib.hid (ME wr D6.out.ints)
        obtain ⟨x0, x1, x2, x3, x4⟩ := box_facts G6.out.box
        go_wp2_with fail
        refine MX.out.mono ?_
        rintro e6 w6 ⟨v6, rfl, hr6, hb6⟩
        obtain ⟨Af, cf, rfl, hif⟩ := hr6.rows
        have G7 := Lib.hid (G6.out.next hb6)
        have D7 := Lib.hid (D6.out.below hb6)
        have L7 := Lib.hid (L6.out.up_ hb6)
        have F7 := Lib.hid hif
        have HB7 := Lib.hid (Below.refl w6.heap.size w6)
        clear hb6 hr6 hif x0 x1 x2 x3 x4 G6 D6 L6 HB6 MX ME G5 D5 L5 HB5
        go_wp2_with fail
        go_loopw [90] (fun i wr => ∃ j : Nat, j ≤ F.length ∧ i = .int .i64 j ∧ Below w6.heap.size w6 wr) (fun i _ => F.length - (intOf i).toNat)
        case atStart => exact ⟨0, Nat.zero_le _, rfl, HB7.out⟩
        case round =>
          obtain ⟨j, hj, rfl, hb⟩ := hrel
          have G8 := Lib.hid (G7.out.next hb)
          have D8 := Lib.hid (D7.out.below hb)
          have L8 := Lib.hid (L7.out.up_ hb)
          have F8 := Lib.hid (F7.out.up_ hb)
          have HB8 := Lib.hid hb
          clear hb
          have hj0 : (0 : Int) ≤ (j : Int) := Int.natCast_nonneg _
          by_cases hjt : j < F.length
          · have hj1 : (j : Int) < (F.length : Int) := by omega
            obtain ⟨bF, oF, e, Ai, ci, rfl, hbF, he, hcell, hints⟩ := F8.out.at_ hjt
            have hme := List.mem_of_getElem? he
            have m3 := HEL.out e hme
            rw [m3] at hcell
            have HSX := Lib.hid (HSI.out e hme)
            have HI := Lib.hid hints
            have HM3 := Lib.hid m3
            obtain ⟨x0, x1, x2, x3, x4⟩ := box_facts G8.out.box
            clear he hme hints m3
            go_wp2_with fail
            go_loop [11, 96] (fun b i => ∃ k : Nat, k ≤ L.length ∧ i = .int .i64 k ∧ b = .bool (decide (e ∈ L.take k))) (fun _ i => L.length - (intOf i).toNat)
            case atStart => exact ⟨0, Nat.zero_le _, rfl, by simp⟩
            case round =>
              obtain ⟨k, hk, rfl, rfl⟩ := hrel
              have hk0 : (0 : Int) ≤ (k : Int) := Int.natCast_nonneg _
              by_cases hlt : k < L.length
              · have hk1 : (k : Int) < (L.length : Int) := by omega
                obtain ⟨bL, oL, x, Aj, cj, rfl, hbL, hx, hcell2, hints2⟩ := L8.out.at_ hlt
                have mx := (HSM.out x (List.mem_of_getElem? hx)).2.2.1
                rw [mx] at hcell2
                have HT := Lib.hid (mem_takeS (e := e) hx)
                have hi3 : (L.length : Int) ≤ 32768 := HLX.out
                cases hf : decide (e ∈ L.take k) with
                | true =>
                  rw [hf] at HT
                  have HT2 := Lib.hid HT
                  clear hx hf HT hints2 mx
                  go_wp2
                  exact ⟨⟨k + 1, by omega, by go_num, by rw [HT2.out.out]; rfl⟩, by simp [intOf]; omega⟩
                | false =>
                  rw [hf] at HT
                  have HT2 := Lib.hid HT
                  have SX := Lib.hid (SA wr Aj Ai cj ci x e mx HM3.out hints2 HI.out).out
                  clear hx hf HT hints2 mx
                  go_wp2_with fail
                  refine SX.out.mono ?_
                  rintro e9 w9 ⟨rfl, rfl⟩
                  clear SX
                  go_wp2
                  exact ⟨⟨k + 1, by omega, by go_num, by rw [HT2.out.out]; rfl⟩, by simp [intOf]; omega⟩
              · rw [List.take_of_length_le (by omega)]
                have EX := EQ wr Ai ci e HM3.out G8.out.own.edges D8.out.ints HI.out
                rw [HSX.out] at EX
                obtain ⟨bb, hbb⟩ : ∃ b, b = decide (e ∈ L) := ⟨_, rfl⟩
                rw [← hbb] at EX ⊢
                have EX2 := Lib.hid EX
                clear EX hbb
                have tb : (bb != bb) = false := by simp
                have hi3 : (F.length : Int) ≤ 262144 := HFX.out
                go_wp2_with fail
                refine EX2.out.out.mono ?_
                rintro e9 w9 ⟨rfl, hb9⟩
                have HB9 := Lib.hid (HB8.out.trans (hb9.mono HB8.out.size))
                clear hb9
                go_wp2
                exact ⟨⟨j + 1, by omega, by go_num, HB9.out⟩, by simp [intOf]; omega⟩
          · have HFIN := Lib.hid (show Below w.heap.size w wr from G8.out.old)
            go_wp2
            go_ret
            exact ⟨rfl, HFIN.out⟩
  · have hsi : (1048576 : Int) < (xs.length : Int) := by omega
    have hsj : (xs.length : Int) ≤ 9223372036854775807 := by omega
    clear hS
    go_enter Try.func3, Try.ntmps3
    go_wp2
    go_ret
    exact ⟨rfl, Below.refl _ _⟩
end Go.Proofs.Ytpdnfijeahdahaa
