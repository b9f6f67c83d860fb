/- What the specification makes of a code: a script, a configuration: whatever the bytes are. -/
import Derived.Test.YtbojbifpaecbcaaMakeD
namespace Go.Proofs.Ytbojbifpaecbcaa
open Go.RowKit

set_option maxRecDepth 100000 in
set_option maxHeartbeats 2000000 in
theorem makeScript_any (w : World) (m M : Nat) (hm : m ≤ 1000) (va : Option Addr) (vb vc : Nat) (A0 : Option Addr) (c0 : Nat) (xs : List Int) (hM : M ≤ 6) (hx : xs.length ≤ 1048576) (hS : CodeS w w.heap.size A0 xs) :
    Calls Try.prog 29 #[.slice A0 xs.length c0, .int .i64 m, .agg #[.int .i64 (M : Int), .slice va vb vc]] w (MadeL w M (-3) 3) := by
  obtain ⟨i0, hi, hz0, hz1, hz2⟩ := info_parts intInfo
  have hb0 : Below w.heap.size w (w.alloc (Obj.cells #[.int .i64 (M : Int), .slice va vb vc] 25)) := (Below.refl _ _).alloc (Nat.le_refl _) _
  have HB := Lib.hid (Blk.new w 25 #[.int .i64 (M : Int), .slice va vb vc])
  have HS := Lib.hid hS
  have HB0 := Lib.hid hb0
  have HLM := Lib.hid hM
  have NW := Lib.hid (l21New_any m hm _ A0 c0 xs hx ((hS.keep hb0).up hb0.size))
  clear hS hb0
  go_enter Try.func29, Try.ntmps29
  go_wp2_with fail
  refine NW.out.mono ?_
  rintro e w1 ⟨gc, rfl, hN, hC, hb⟩
  have hN2 : w.heap.size + 1 ≤ gc := by simpa using hN
  have hgl := hC.lt
  have LB := fun (w' : World) (hd : Cur w' gc A0 xs.length c0) (ho : Below w.heap.size w w') => Lib.hid (l01Below_any 7 (by omega) (by omega) w' gc A0 c0 xs hx hd ((HS.out.keep ho).up (by omega)))
  have hs1 : w.heap.size + 1 ≤ w1.heap.size := by omega
  have hw1 : Below w.heap.size w w1 := HB0.out.trans (hb.mono HB0.out.size)
  have hx1 : Blk w1 w.heap.size 25 #[.int .i64 (M : Int), .slice va vb vc] := HB.out.below hb HB.out.lt
  obtain ⟨W0, hW0⟩ : ∃ X : World, X = w1.alloc (Obj.cells #[] 3) := ⟨_, rfl⟩
  have HM0 := Lib.hid (show MkW w W0 gc w.heap.size w1.heap.size w.heap.size A0 xs.length c0 (M : Int) (.slice va vb vc) (.slice (some ⟨w1.heap.size, 0, none⟩) 0 0) [] from by
    have hb1 : Below w1.heap.size w1 W0 := by rw [hW0]; exact (Below.refl _ _).alloc (Nat.le_refl _) _
    refine ⟨hC.below hb1, hw1.trans (hb1.mono (by omega)), hx1.below hb1 hx1.lt, ⟨rfl, .inr ⟨w1.heap.size, 0, #[], rfl, Nat.le_refl _, ?_, Nat.le_refl _, Nat.zero_le _, rfl, rfl⟩⟩, fun k _ h2 => ?_⟩
    · rw [hW0]
      exact heap_alloc_new w1 (Obj.cells #[] 3)
    · exact (hb1.block k (by omega)).trans (hw1.block k h2))
  have hs0 : w1.heap.size ≤ W0.heap.size := by rw [hW0]; simp
  have HW0 := Lib.hid hW0
  clear hN hC hb hw1 hx1 hW0 HB HB0 NW
  go_wp2
  go_loopw [8, 9] (fun s i wr => ∃ (k : Nat) (l : List Int), i = .int .i64 k ∧ k ≤ M ∧ Hid (l.length = k) ∧ (∀ x ∈ l, -3 ≤ x ∧ x ≤ 3) ∧ MkW w wr gc w.heap.size w1.heap.size w.heap.size A0 xs.length c0 (M : Int) (.slice va vb vc) s l ∧ w1.heap.size ≤ wr.heap.size) (fun _ i _ => M - (intOf i).toNat)
  case atStart =>
    rw [← HW0.out]
    exact ⟨0, [], rfl, Nat.zero_le _, Lib.hid rfl, (fun x hx => by cases hx), HM0.out, hs0⟩
  case round =>
    clear HM0 HW0
    obtain ⟨k, l, rfl, hk, HLK, hbd, hm, hsz⟩ := hrel
    have HM := Lib.hid hm
    have HBD := Lib.hid hbd
    obtain ⟨x0, x1, x2, x3, x4⟩ := box_facts hm.box
    clear hm hbd
    by_cases hlt : k < M
    · have hk0 : (0 : Int) ≤ (k : Int) := Int.natCast_nonneg _
      have hk1 : (k : Int) < (M : Int) := by omega
      have HB := LB wr HM.out.cur HM.out.old
      go_wp2_with fail
      refine HB.out.mono ?_
      rintro e w2 ⟨y, rfl, hy0, hy1, hC2, hb2, hf2⟩
      have HM2 := Lib.hid (HM.out.drawn (by omega) (by omega) (by omega) hC2 hb2 hf2)
      have hs2 : w1.heap.size ≤ w2.heap.size := Nat.le_trans hsz hb2.size
      have hll : l.length ≤ 6 := by have := HLK.out; have := HLM.out; omega
      have HM5 := Lib.hid (HM2.out.next (by omega) hs2 (by omega) ((Below.refl _ _).alloc (Nat.le_refl _) (.cells #[.int .i64 (y - 3)] 3)))
      clear hC2 hb2 hf2 HB HM x0 x1 x2 x3 x4 HM2
      go_wp2_with (at_builtin; refine wpList_append_own _ rfl _ _ 29 rfl w1.heap.size 3 i0 (.int .i64 0) 1 8 Try.underlying29 hi hz0 hz1 hz2 rfl (by decide) _ _ _ rfl HM5.out.own ⟨_, 0, none⟩ 1 1 [.int .i64 (y - 3)] rfl rfl ?c1 ?c2 ?c3 ?c4 ?c5 ?_)
      case c1 => exact one_cellI _ _ (by simp) _ _
      case c2 => simp [Value.oneCell']
      case c3 => unfold maxLen; omega
      case c4 => omega
      case c5 => simp; omega
      intro v' w6 hown' hgrow _
      have hown2 : w6.ownsRow w1.heap.size 3 1 v' (l ++ [y - 3]).length (intCells (l ++ [y - 3])) := by rw [← cells_snoc, List.length_append]; exact hown'
      have HM6 := Lib.hid (HM5.out.push (by omega) (by simp; omega) (by omega) (by omega) (by omega) (fun q hq => (HM5.out.own.lt q hq).1) hgrow hown2)
      have hs6 : w1.heap.size ≤ w6.heap.size := by have := hgrow.size; simp at this; omega
      clear hown' hown2 hgrow
      obtain ⟨y0, y1, y2, y3, y4⟩ := box_facts HM6.out.box
      go_wp2
      exact ⟨⟨k + 1, l ++ [y - 3], by go_num, by omega, Lib.hid (by have := HLK.out; simp; omega), bound_snoc HBD.out (by omega) (by omega), HM6.out, hs6⟩, by simp [intOf]; omega⟩
    · have hkM : k = M := by omega
      have hno : ¬ ((k : Int) < (M : Int)) := by omega
      obtain ⟨Ar, cr, hv, -⟩ := own_slice HM.out.own
      subst hv
      have HO := Lib.hid (OwnI.of_own HM.out.own)
      go_wp2
      go_ret
      exact ⟨Ar, cr, l, rfl, Lib.hid (by have := HLK.out; omega), HBD.out, HO.out.mono (by omega), HM.out.old⟩
theorem OwnI.store {w : World} {base g off q : Nat} {l : List Int} {x : Int} (h : OwnI w base (some ⟨g, off, none⟩) l) (hq : q < l.length) : OwnI (w.setCell ⟨g, off + q, none⟩ (.int .i64 x)) base (some ⟨g, off, none⟩) (l.set q x) := fun _ => by
  obtain ⟨g', off', e, h1, hg, hc⟩ := h (by omega)
  simp only [Option.some.injEq, Addr.mk.injEq, and_true] at e
  obtain ⟨rfl, rfl⟩ := e
  refine ⟨g, off, rfl, h1, by simpa [World.setCell] using hg, fun i z hz => ⟨?_, ?_⟩⟩
  · have hil : i < l.length := by
      have := (List.getElem?_eq_some_iff.1 hz).1
      simpa using this
    by_cases e : i = q
    · subst e
      have h3 := (hc i l[i] (List.getElem?_eq_getElem hil)).1
      rw [List.getElem?_set_self hil] at hz
      injection hz with hz
      subst hz
      exact World.cell?_setCell_same (h := h3) ..
    · rw [List.getElem?_set_ne (Ne.symm e)] at hz
      have hne : (⟨g, off + q, none⟩ : Addr) ≠ ⟨g, off + i, none⟩ := by
        intro he
        simp only [Addr.mk.injEq] at he
        omega
      exact (World.cell?_setCell_other (h := hne) ..).trans (hc i z hz).1
  · have hil : i < l.length := by
      have := (List.getElem?_eq_some_iff.1 hz).1
      simpa using this
    rw [World.frozen?_setCell]
    exact (hc i l[i] (List.getElem?_eq_getElem hil)).2
set_option maxRecDepth 100000 in
set_option maxHeartbeats 2000000 in
theorem l10Draw_any (w : World) (gc M q : Nat) (V : Value) (hV : ∃ a b c, V = .slice a b c) (A0 : Option Addr) (c0 : Nat) (xs : List Int) (hM : M ≤ 6) (hq : q < M) (hx : xs.length ≤ 1048576) (hC : Cur w gc A0 xs.length c0) (hS : CodeS w gc A0 xs) :
    Calls Try.prog 79 #[.pointer (some ⟨gc, 0, none⟩), .agg #[.int .i64 (M : Int), V], .int .i64 (q : Int)] w (DrawnL w gc gc M 0 6) := by
  obtain ⟨va, vb, vc, rfl⟩ := hV
  obtain ⟨i0, hi, hz0, hz1, hz2⟩ := info_parts intInfo
  have hgc := hC.lt
  have LB := fun (w' : World) (hd : Cur w' gc A0 xs.length c0) (ho : Below gc w w') => Lib.hid (l01Below_any 7 (by omega) (by omega) w' gc A0 c0 xs hx hd (hS.keep ho))
  have hb0 : Below w.heap.size w (w.alloc (Obj.cells #[.int .i64 (M : Int), .slice va vb vc] 25)) := (Below.refl _ _).alloc (Nat.le_refl _) _
  obtain ⟨W0, hW0⟩ : ∃ X : World, X = (w.alloc (Obj.cells #[.int .i64 (M : Int), .slice va vb vc] 25)).alloc (Obj.cells #[] 3) := ⟨_, rfl⟩
  have HM0 := Lib.hid (show MkW w W0 gc w.heap.size (w.heap.size + 1) gc A0 xs.length c0 (M : Int) (.slice va vb vc) (.slice (some ⟨w.heap.size + 1, 0, none⟩) 0 0) [] from by
    have hb1 : Below w.heap.size w W0 := by rw [hW0]; exact hb0.alloc (by simp) _
    refine ⟨hC.below hb1, hb1.mono (Nat.le_of_lt hgc), by rw [hW0]; exact (Blk.new w _ _).alloc _, ⟨rfl, .inr ⟨w.heap.size + 1, 0, #[], rfl, Nat.le_refl _, ?_, Nat.le_refl _, Nat.zero_le _, rfl, rfl⟩⟩, fun k h1 h2 => ?_⟩
    · rw [hW0]
      have := heap_alloc_new (w.alloc (Obj.cells #[.int .i64 (M : Int), .slice va vb vc] 25)) (Obj.cells #[] 3)
      rwa [World.size_alloc] at this
    · rw [hW0]
      exact (Below.heap_alloc _ _ k (by simp; omega)).trans (Below.heap_alloc _ _ k h2))
  have HW0 := Lib.hid hW0
  have HLM := Lib.hid hM
  clear hC hS hb0 hW0
  go_enter Try.func79, Try.ntmps79
  go_wp2
  go_loopw [7, 8] (fun s i wr => ∃ (k : Nat) (l : List Int), i = .int .i64 k ∧ k ≤ M ∧ Hid (l.length = k) ∧ (∀ x ∈ l, 0 ≤ x ∧ x ≤ 6) ∧ MkW w wr gc w.heap.size (w.heap.size + 1) gc A0 xs.length c0 (M : Int) (.slice va vb vc) s l) (fun _ i _ => M - (intOf i).toNat)
  case atStart =>
    rw [← HW0.out]
    exact ⟨0, [], rfl, Nat.zero_le _, Lib.hid rfl, (fun x hx => by cases hx), HM0.out⟩
  case round =>
    clear HM0 HW0
    obtain ⟨k, l, rfl, hk, HLK, hbd, hm⟩ := hrel
    have HM := Lib.hid hm
    have HBD := Lib.hid hbd
    obtain ⟨x0, x1, x2, x3, x4⟩ := box_facts hm.box
    have hsz : w.heap.size + 1 ≤ wr.heap.size := x4
    clear hm hbd
    by_cases hlt : k < M
    · have hk0 : (0 : Int) ≤ (k : Int) := Int.natCast_nonneg _
      have hk1 : (k : Int) < (M : Int) := by omega
      have HB := LB wr HM.out.cur HM.out.old
      go_wp2_with fail
      refine HB.out.mono ?_
      rintro e w4 ⟨x, rfl, hx0, hx1, hC4, hb4, hf4⟩
      have HM4 := Lib.hid (HM.out.drawn (Nat.le_refl _) (by omega) (by omega) hC4 hb4 hf4)
      have hs4 : w.heap.size + 1 ≤ w4.heap.size := HM4.out.box.lt
      clear hC4 hb4 hf4 HB HM x0 x1 x2 x3 x4
      have HM5 := Lib.hid (HM4.out.next (by omega) hs4 (by omega) ((Below.refl _ _).alloc (Nat.le_refl _) (.cells #[.int .i64 x] 3)))
      have hll : l.length ≤ 6 := by have := HLK.out; have := HLM.out; omega
      go_wp2_with (at_builtin; refine wpList_append_own _ rfl _ _ 29 rfl (w.heap.size + 1) 3 i0 (.int .i64 0) 1 8 Try.underlying29 hi hz0 hz1 hz2 rfl (by decide) _ _ _ rfl HM5.out.own ⟨_, 0, none⟩ 1 1 [.int .i64 x] rfl rfl ?c1 ?c2 ?c3 ?c4 ?c5 ?_)
      case c1 => exact one_cellI _ _ (by simp) _ _
      case c2 => simp [Value.oneCell']
      case c3 => unfold maxLen; omega
      case c4 => omega
      case c5 => simp; omega
      intro v' w6 hown' hgrow _
      have hown2 : w6.ownsRow (w.heap.size + 1) 3 1 v' (l ++ [x]).length (intCells (l ++ [x])) := by rw [← cells_snoc, List.length_append]; exact hown'
      have HM6 := Lib.hid (HM5.out.push (by omega) (by simp; omega) (by omega) (by omega) (by omega) (fun q hq => (HM5.out.own.lt q hq).1) hgrow hown2)
      clear hown' hown2 hgrow
      obtain ⟨y0, y1, y2, y3, y4⟩ := box_facts HM6.out.box
      go_wp2
      exact ⟨⟨k + 1, l ++ [x], by go_num, by omega, Lib.hid (by have := HLK.out; simp; omega), bound_snoc HBD.out (by omega) (by omega), HM6.out⟩, by simp [intOf]; omega⟩
    · have hkM : k = M := by omega
      have hno : ¬ ((k : Int) < (M : Int)) := by omega
      have hlM : l.length = M := by have := HLK.out; omega
      obtain ⟨Ar, cr, hv, -⟩ := own_slice HM.out.own
      subst hv
      have hO := OwnI.of_own HM.out.own
      obtain ⟨g, off, rfl, hg1, hg2, hgc2⟩ := hO (by omega)
      have HO := Lib.hid hO
      have hql : q < l.length := by omega
      obtain ⟨y, hy⟩ : ∃ y, y = l[q] := ⟨_, rfl⟩
      have hcl := hgc2 q y (by rw [hy]; exact List.getElem?_eq_getElem hql)
      obtain ⟨hcl1, hcl2⟩ := hcl
      clear hy
      have HST := Lib.hid (HO.out.store (q := q) (x := 0) (by omega))
      have HLS := Lib.hid (show (l.set q 0).length = l.length by simp)
      have HBS := Lib.hid (show ∀ x ∈ l.set q 0, 0 ≤ x ∧ x ≤ 6 from fun x hx => by
        rcases List.mem_or_eq_of_mem_set hx with h | h
        · exact HBD.out x h
        · omega)
      have HLM2 := Lib.hid hlM
      have hq0 : (0 : Int) ≤ (q : Int) := Int.natCast_nonneg _
      have hq1 : (q : Int) < (l.length : Int) := by omega
      clear hO hgc2 hlM hkM
      go_wp2
      go_ret
      exact ⟨some ⟨g, off, none⟩, cr, l.set q 0, by rw [HLS.out]; rfl, Lib.hid (by rw [HLS.out, HLM2.out]), HBS.out, HST.out.mono (by omega), HM.out.old.setCell (p := ⟨g, off + q, none⟩) (by simp only; omega) _, fun k h1 h2 => (Below.heap_setCell _ _ _ _ (by show k ≠ g; omega)).trans (HM.out.kep k h1 h2)⟩
set_option maxRecDepth 100000 in
set_option maxHeartbeats 2000000 in
theorem makePile_any (w : World) (m M q : Nat) (hm : m ≤ 1000) (va : Option Addr) (vb vc : Nat) (A0 : Option Addr) (c0 : Nat) (xs : List Int) (hM : M ≤ 6) (hq : q < M) (hx : xs.length ≤ 1048576) (hS : CodeS w w.heap.size A0 xs) :
    Calls Try.prog 32 #[.slice A0 xs.length c0, .int .i64 m, .agg #[.int .i64 (M : Int), .slice va vb vc], .int .i64 (q : Int)] w (MadeL w M 0 6) := by
  have hb0 : Below w.heap.size w (w.alloc (Obj.cells #[.int .i64 (M : Int), .slice va vb vc] 25)) := (Below.refl _ _).alloc (Nat.le_refl _) _
  have HB := Lib.hid (Blk.new w 25 #[.int .i64 (M : Int), .slice va vb vc])
  have HS := Lib.hid hS
  have HB0 := Lib.hid hb0
  have HLM := Lib.hid hM
  have HLQ := Lib.hid hq
  clear hS hb0 hM hq
  go_enter Try.func32, Try.ntmps32
  go_wp2_with fail
  obtain ⟨W0, hW0⟩ : ∃ X : World, X = w.alloc (Obj.cells #[.int .i64 (M : Int), .slice va vb vc] 25) := ⟨_, rfl⟩
  rw [← hW0] at HB HB0
  rw [← hW0]
  clear hW0
  obtain ⟨x0, x1, x2, x3, x4⟩ := box_facts HB.out
  have NW := fun (W : World) (hb : Below W0.heap.size W0 W) => Lib.hid (l21New_any m hm W A0 c0 xs hx ((HS.out.keep (HB0.out.trans (hb.mono HB0.out.size))).up (Nat.le_trans HB0.out.size hb.size)))
  have DW := fun (W : World) (gc : Nat) (hg : W0.heap.size ≤ gc) (hC : Cur W gc A0 xs.length c0) (hb : Below W0.heap.size W0 W) => Lib.hid (l10Draw_any W gc M q (.slice va vb vc) ⟨_, _, _, rfl⟩ A0 c0 xs HLM.out HLQ.out hx hC ((HS.out.keep (HB0.out.trans (hb.mono HB0.out.size))).up (Nat.le_trans HB0.out.size hg)))
  go_region_held3 (fun w' => w'.cell? ⟨w.heap.size, 0, none⟩ = some (.int .i64 (M : Int)) ∧ w'.cell? ⟨w.heap.size, 1, none⟩ = some (.slice va vb vc) ∧ Below W0.heap.size W0 w')
    (first
      | exact ⟨x0, x1, (Below.refl _ _).drew⟩
      | exact keepK (by assumption) hb1 x4 (Nat.le_refl _)
      | exact keepK (by assumption) hb2 (Nat.lt_of_lt_of_le x4 hN) hN)
    (first
      | (go_at_call 68; refine (NW _ (Below.refl _ _).drew).out.mono ?_; rintro e w1 ⟨gc, rfl, hN, hC, hb1⟩)
      | (go_at_call 79; refine (DW w1 gc hN hC ((Below.refl _ _).drew.trans hb1)).out.mono ?_; rintro e w2 ⟨A1, c1, d, rfl, hdl, hbd, ho, hb2, hkp⟩))
  have hN2 : W0.heap.size ≤ gc := hN
  have hBF := (HB0.out.trans (((Below.refl _ _).drew.trans hb1).mono HB0.out.size)).trans (hb2.mono (Nat.le_trans HB0.out.size hN2))
  have hs1 := hb1.size
  have HO := Lib.hid (ho.mono (base' := w.heap.size) (Nat.le_trans HB0.out.size hs1))
  have HBD := Lib.hid hbd
  clear hbd ho hb2 hkp
  go_wp2
  go_ret
  exact ⟨A1, c1, d, rfl, hdl, HBD.out, HO.out, hBF⟩
end Go.Proofs.Ytbojbifpaecbcaa
