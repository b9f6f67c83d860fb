/- Sandpiles: stabilizing: the specification's side. -/
import Derived.Test.YtdpojcgeblbfeaaTPilC
import Derived.Test.YtdpojcgeblbfeaaTBI
set_option linter.all false
namespace Go.Proofs.Ytdpojcgeblbfeaa
open Go.RowKit

def GivesTwo (w : World) (M : Nat) (xs ys : List Int) (e : Ending) (w' : World) : Prop :=
  ∃ (A1 A2 : Option Addr) (c1 c2 : Nat), e = .returned (.tuple #[.slice A1 M c1, .slice A2 M c2]) ∧ OwnI w' w.heap.size A1 xs ∧ OwnI w' w.heap.size A2 ys ∧ (∀ g1 o1 g2 o2, A1 = some ⟨g1, o1, none⟩ → A2 = some ⟨g2, o2, none⟩ → g1 ≠ g2) ∧ Below w.heap.size w w'
theorem stab_of {M q : Nat} {es : List (Int × Int)} {p : List Int} {n : Nat → Int} (h : unsF M q es (pileL M es p q n) = none) : Stab M es p q n := fun v hv hq => by
  have := unsF_none h v hv hq
  rwa [pileL_get hv, if_neg hq] at this
theorem tops_of {M q v : Nat} {es : List (Int × Int)} {p : List Int} {n : Nat → Int} (ht : Tops M es p q n) (h : unsF M q es (pileL M es p q n) = some v) : v < M ∧ v ≠ q ∧ Tops M es p q (addAt n v 1) := by
  obtain ⟨h1, h2, h3⟩ := unsF_some h
  rw [pileL_get h1, if_neg h2] at h3
  exact ⟨h1, h2, ht.step h1 h2 h3⟩
set_option maxRecDepth 100000 in
set_option maxHeartbeats 4000000 in
theorem l10Settle_any {M q : Nat} {es : List (Int × Int)} {p : List Int} (h : PileL M q es p) (A D : Option Addr) (c cd : Nat) (w : World) (hE : EdgeS w w.heap.size A es) (hS : IntS w w.heap.size D p) :
    Calls Try.prog 153 #[.agg #[.int .i64 (M : Int), .slice A es.length c], .slice D M cd, .int .i64 (q : Int)] w (GivesTwo w M (pileL M es p q (settN M es p q)) (cntL M (settN M es p q))) := by
  obtain ⟨i0, hi, hz0, hz1, hz2⟩ := info_parts intInfo
  have hM6 := h.m6
  have hM0 := h.m0
  have hqM := h.qm
  have HE := Lib.hid hE
  have HS := Lib.hid hS
  have G0 := GB.start w (M : Int) A c es
  have hmk := make_ints M (by omega)
  have hset := h.ex
  obtain ⟨NS, hNS⟩ : ∃ x, x = settN M es p q := ⟨_, rfl⟩
  rw [← hNS] at hset ⊢
  have HUN := Lib.hid (show ∀ (n : Nat → Int) (X : Option Addr) (cx : Nat) (W : World), EdgeS W W.heap.size A es → IntS W W.heap.size X (pileL M es p q n) → Calls Try.prog 192 #[.agg #[.int .i64 (M : Int), .slice A es.length c], .slice X M cx, .int .i64 (q : Int)] W fun e w' => e = .returned (.int .i64 (unsI (unsF M q es (pileL M es p q n)))) ∧ Below W.heap.size W w' from fun n X cx W h1 h2 => l10Unst_any A X c cx M q es _ W hM6 h.n12 h.ed (pileL_len _ _ _ _ _) h1 h2)
  have HTP := Lib.hid (show ∀ (n : Nat → Int) (v : Nat) (X : Option Addr) (cx : Nat) (W : World), Tops M es p q n → v < M → EdgeS W W.heap.size A es → IntS W W.heap.size X (pileL M es p q n) → Calls Try.prog 193 #[.agg #[.int .i64 (M : Int), .slice A es.length c], .slice X M cx, .int .i64 (q : Int), .int .i64 (v : Int)] W (GivesM W M (pileL M es p q (addAt n v 1))) from fun n v X cx W ht hv h1 h2 => by
    have k := l10Topple_any A X c cx M q v es (pileL M es p q n) W hM0 hM6 h.n12 h.ed (pileL_len _ _ _ _ _) (fun u => by
      by_cases hu : u < M
      · rw [pileL_get hu]
        have := ht.chips h u
        split <;> omega
      · simp [List.getD, List.getElem?_eq_none (show (pileL M es p q n).length ≤ u by rw [pileL_len]; omega)]) hqM hv h1 h2
    rw [topL_eq h ht hv] at k
    exact k)
  have HLM := Lib.hid (show ∀ n : Nat → Int, Tops M es p q n → (∀ u, 0 ≤ n u ∧ n u ≤ 2160) from fun n ht => ht.lims h)
  have HLE := Lib.hid (show ∀ n : Nat → Int, Tops M es p q n → sumV n M ≤ sumV NS M from fun n ht => ht.more h.ed h.hp hset)
  have HEQ := Lib.hid (show ∀ n : Nat → Int, Tops M es p q n → unsF M q es (pileL M es p q n) = none → n = NS from fun n ht hu => by
    rw [hNS]
    exact (IsSet.eq h.ed h.hp ⟨ht, stab_of hu⟩).symm)
  have HP0 := Lib.hid (pileL_zero (es := es) h.len hqM h.zero)
  have HC0 := Lib.hid (cntL_zero (M := M))
  have HT0 := Lib.hid (Tops.zero (M := M) (es := es) (p := p) (q := q))
  have HS0 := Lib.hid (show sumV (fun _ : Nat => (0 : Int)) M = 0 by have := sumV_const 0 M; omega)
  have HSN := Lib.hid (show 0 ≤ sumV NS M from sumV_nn (fun u => (hset.tops.facts h.ed h.hp).2.1 u) M)
  have HPL := Lib.hid h.len
  obtain ⟨bd, od, rfl, hbd, hcd⟩ := hS (by rw [h.len]; exact hM0)
  have HCD := Lib.hid hcd
  have hs1 : (w.alloc (Obj.cells #[.int .i64 (M : Int), .slice A es.length c] 25)).heap.size = w.heap.size + 1 := by simp
  have HO0 := own_emptyF (w.alloc (Obj.cells #[.int .i64 (M : Int), .slice A es.length c] 25)) (w.alloc (Obj.cells #[.int .i64 (M : Int), .slice A es.length c] 25)).heap.size (Nat.le_refl _) 3
  rw [hs1] at HO0
  have HO0 := Lib.hid HO0
  have HB1 := Lib.hid (show Below w.heap.size w ((w.alloc (Obj.cells #[.int .i64 (M : Int), .slice A es.length c] 25)).alloc (Obj.cells #[] 3)) from ((Below.refl _ _).alloc (Nat.le_refl _) _).alloc (by simp) _)
  have HGB := Lib.hid (show GB w ((w.alloc (Obj.cells #[.int .i64 (M : Int), .slice A es.length c] 25)).alloc (Obj.cells #[] 3)) (M : Int) A c es from G0.next ((Below.refl _ _).alloc (Nat.le_refl _) _))
  clear hE hS hcd hset hNS h G0 hs1
  go_enter Try.func153, Try.ntmps153
  go_wp2_with (at_builtin; refine wpList_append_own _ rfl _ _ 28 rfl (w.heap.size + 1) 3 i0 (.int .i64 0) 1 8 Try.underlying28 hi hz0 hz1 hz2 rfl (by decide) _ _ _ rfl HO0.out ⟨bd, od, none⟩ M cd (intCells p) rfl ?k0 ?k1 ?k2 ?k3 ?k4 ?k5 ?_)
  case k0 => simp [intCells, HPL.out]
  case k1 =>
    intro j u hj
    simp only [intCells, List.getElem?_map, Option.map_eq_some_iff] at hj
    obtain ⟨z, hz, rfl⟩ := hj
    rw [Addr.add_lit]
    exact (HB1.out.cell (p := ⟨bd, od + j, none⟩) hbd).trans (HCD.out j z hz)
  case k2 =>
    intro u hu
    simp only [intCells, List.mem_map] at hu
    obtain ⟨z, _, rfl⟩ := hu
    rfl
  case k3 => unfold maxLen; omega
  case k4 => omega
  case k5 => simp
  intro v' w5 hown hgrow _
  obtain ⟨g5, cg5, rfl, hg5, hch⟩ := Chips.of_own (l := p) hown (by omega)
  have hb5 : Below (w.heap.size + 1) ((w.alloc (Obj.cells #[.int .i64 (M : Int), .slice A es.length c] 25)).alloc (Obj.cells #[] 3)) w5 := (Below.refl _ _).grown hgrow (by simp) (fun k hk => (HO0.out.lt k hk).1)
  have G5 := Lib.hid (show GB w w5 (M : Int) A c es from ⟨HGB.out.box.below hb5 (by omega), HGB.out.old.trans (hb5.mono (by omega))⟩)
  have HC5 := Lib.hid hch
  clear hown hgrow hch hb5 HO0 HB1 HGB HCD hi hz0 hz1 hz2
  have c0 := G5.out.c0
  have c1 := G5.out.c1
  go_wp2
  have hlt5 := HC5.out.lt
  have hgw := G5.out.lt
  have HZC := Lib.hid (show Blk (w5.alloc (Obj.cells (intCells (List.replicate M 0)).toArray 3)) w5.heap.size 3 (intCells (List.replicate M 0)).toArray from Blk.new w5 _ _)
  have hb6 : Below w5.heap.size w5 (w5.alloc (Obj.cells (intCells (List.replicate M 0)).toArray 3)) := (Below.refl _ _).alloc (Nat.le_refl _) _
  have G6 := Lib.hid (G5.out.next hb6)
  have HC6 := Lib.hid (HC5.out.below hb6)
  have HN6 := Lib.hid (show Chips (w5.alloc (Obj.cells (intCells (List.replicate M 0)).toArray 3)) w5.heap.size (cntL M fun _ => 0) from by
    rw [HC0.out]
    exact ⟨HZC.out.lt, fun i z hz => ⟨by rw [HZC.out.cell, List.getElem?_toArray, intCells, List.getElem?_map, hz]; rfl, HZC.out.frozen i⟩⟩)
  have hcb : w.heap.size < w5.heap.size := hgw
  obtain ⟨cb, hcbe⟩ : ∃ x, x = w5.heap.size := ⟨_, rfl⟩
  clear hmk c0 c1 hb6 HC5 G5 HZC
  go_loopg [8, 10] (sumV NS M).toNat (fun gk s _ wr => ∃ (n : Nat → Int) (A9 : Option Addr) (c9 : Nat), s = .slice A9 M c9 ∧ Hid ((gk : Int) + sumV n M = sumV NS M) ∧ Tops M es p q n ∧ OwnI wr w.heap.size A9 (pileL M es p q n) ∧ (∀ g o, A9 = some ⟨g, o, none⟩ → g ≠ w5.heap.size) ∧ Chips wr w5.heap.size (cntL M n) ∧ GB w wr (M : Int) A c es)
  case atStart => exact ⟨fun _ => 0, some ⟨g5, 0, none⟩, cg5, rfl, Lib.hid (by have := HS0.out; have := HSN.out; omega), HT0.out, by rw [HP0.out]; exact HC6.out.own (by omega), fun g o e => by simp only [Option.some.injEq, Addr.mk.injEq, and_true] at e; omega, HN6.out, G6.out⟩
  case round =>
    clear HC6 HN6 G6 HT0 HS0 HP0 HC0
    obtain ⟨n, A9, c9, rfl, HG, ht, ho, hap, hcn, hg⟩ := hrel
    have HT := Lib.hid ht
    have HO := Lib.hid ho
    have HAP := Lib.hid hap
    have HCN := Lib.hid hcn
    have G7 := Lib.hid hg
    have c0 := G7.out.c0
    have c1 := G7.out.c1
    clear ht ho hap hcn hg
    have HU2 := HUN.out n A9 c9 wr (HE.out.up_ G7.out.old) HO.out.ints
    cases hu : unsF M q es (pileL M es p q n) with
    | none =>
      rw [hu] at HU2
      have HNE := Lib.hid (HEQ.out n HT.out hu)
      clear hu
      go_wp2_with fail
      refine HU2.mono ?_
      rintro e w8 ⟨rfl, hb8⟩
      have G8 := Lib.hid (G7.out.next hb8)
      have HO8 := Lib.hid (HO.out.below hb8)
      have HCN8 := Lib.hid (HCN.out.below hb8)
      have hm1 : unsI none = -1 := rfl
      clear hb8 HU2 c0 c1
      rw [hm1]
      go_wp2
      go_ret2
      exact ⟨A9, some ⟨w5.heap.size, 0, none⟩, c9, M, rfl, by rw [← HNE.out]; exact HO8.out, by rw [← HNE.out]; exact HCN8.out.own (by omega), fun g1 o1 g2 o2 e1 e2 => by
        simp only [Option.some.injEq, Addr.mk.injEq, and_true] at e2
        have := HAP.out g1 o1 e1
        omega, G8.out.old⟩
    | some v =>
      rw [hu] at HU2
      obtain ⟨hv, hvq, ht2⟩ := tops_of HT.out hu
      have HT2 := Lib.hid ht2
      have hvi : unsI (some v) = (v : Int) := rfl
      have hv0 : (0 : Int) ≤ (v : Int) := Int.natCast_nonneg _
      have hv1 : (v : Int) < (M : Int) := by omega
      have HTP2 := fun W h1 h2 => Lib.hid (HTP.out n v A9 c9 W HT.out hv h1 h2)
      have hlm := HLM.out n HT.out v
      have hnv : IntKind.i64.wrap (n v + 1) = n v + 1 := by rw [IntKind.wrap_i64]; omega
      have hle := HLE.out _ ht2
      rw [sumV_addAt, if_pos hv] at hle
      have HLE2 := Lib.hid hle
      have HSA := Lib.hid (show sumV (addAt n v 1) M = sumV n M + 1 by rw [sumV_addAt, if_pos hv])
      clear hu ht2 hle
      rw [hvi] at HU2
      go_wp2_with fail
      refine HU2.mono ?_
      rintro e w8 ⟨rfl, hb8⟩
      have G8 := Lib.hid (G7.out.next hb8)
      have HO8 := Lib.hid (HO.out.below hb8)
      have HCN8 := Lib.hid (HCN.out.below hb8)
      clear hb8 HU2 c0 c1
      have c0 := G8.out.c0
      have c1 := G8.out.c1
      go_wp2_with fail
      refine (HTP2 w8 (HE.out.up_ G8.out.old) HO8.out.ints).out.mono ?_
      rintro e w9 ⟨Ar, cr, rfl, hor, hb9⟩
      have G9 := Lib.hid (G8.out.next hb9)
      have hl8 := HCN8.out.lt
      have hcn9 := HCN8.out.below hb9
      obtain ⟨k1, k2⟩ := hcn9.cell v (n v) (cntL_at hv)
      have hset9 := hcn9.set_ (a := v) (by rw [cntL_len]; exact hv) (n v + 1)
      rw [cntL_set hv] at hset9
      have HCN9 := Lib.hid hset9
      have HOR := Lib.hid (show OwnI (w9.setCell ⟨w5.heap.size, v, none⟩ (.int .i64 (n v + 1))) w8.heap.size Ar (pileL M es p q (addAt n v 1)) from fun hp => by
        obtain ⟨g, o, e, q1, q2, q3⟩ := hor hp
        refine ⟨g, o, e, q1, by simpa [World.setCell] using q2, fun i z hz => ?_⟩
        have hbl := Below.heap_setCell w9 ⟨w5.heap.size, v, none⟩ (.int .i64 (n v + 1)) g (by show g ≠ w5.heap.size; omega)
        exact ⟨(World.cell?_of_block (a := ⟨g, o + i, none⟩) hbl).trans (q3 i z hz).1, (World.frozen?_of_block (a := ⟨g, o + i, none⟩) hbl).trans (q3 i z hz).2⟩)
      have HARR := Lib.hid (show ∀ g o, Ar = some ⟨g, o, none⟩ → g ≠ w5.heap.size from fun g o e => by
        obtain ⟨g', o', e', q1, -⟩ := hor (by rw [pileL_len]; exact hM0)
        rw [e] at e'
        simp only [Option.some.injEq, Addr.mk.injEq, and_true] at e'
        omega)
      have hw8 := G8.out.old.size
      have G10 := Lib.hid (show GB w (w9.setCell ⟨w5.heap.size, v, none⟩ (.int .i64 (n v + 1))) (M : Int) A c es from ⟨G9.out.box.far (by simp only; omega) _, G9.out.old.setCell (p := ⟨w5.heap.size, v, none⟩) (by simp only; omega) _⟩)
      clear hb9 hcn9 hset9 hor c0 c1
      go_wp2
      go_roundg (gk - 1)
      case measure =>
        have a1 := HG.out
        have a2 := HLE2.out
        omega
      case rel =>
        exact ⟨addAt n v 1, Ar, cr, rfl, Lib.hid (by have a1 := HG.out; have a2 := HSA.out; have a3 := HLE2.out; omega), HT2.out, HOR.out.mono hw8, HARR.out, HCN9.out, G10.out⟩
end Go.Proofs.Ytdpojcgeblbfeaa
