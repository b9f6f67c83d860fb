/- The program's walkLayers. -/
import Derived.Test.YtkmbdclhjdbhpabCross
import Derived.Test.YtkmbdclhjdbhpabRepeat
import Derived.Test.YtkmbdclhjdbhpabCount
namespace Go.Proofs.Ytkmbdclhjdbhpab
open Go.RowKit Go.Maps Go.WideMaps Go.WideElems Go.ChangeMaps

def mapSize (w : World) (B : Nat) : Nat := match w.heap[B]? with
  | some (.map es _) => es.size
  | _ => 0
theorem MS.size_eq {w : World} {B sz : Nat} {es : List (Int × Int)} (h : MS w B es sz) : mapSize w B = sz := by
  obtain ⟨n, D, ⟨es', clock, hb, F, _, rfl⟩, _, rfl⟩ := h
  simp [mapSize, hb, Maps.size, length_sorted]
theorem MS.of_cm' {w : World} {B : Nat} {es : List (Int × Int)} (h : CM w B es) : ∃ sz, sz ≤ es.length ∧ MS w B es sz := by
  obtain ⟨n, D, h1, h2, h3⟩ := h
  refine ⟨Maps.size D, ?_, n, D, h1, h3, rfl⟩
  obtain ⟨es', clock, hb, F, h4, rfl⟩ := h1
  simp [Maps.size, length_sorted]
  omega

/-- the distances from v, -1 where there is no way -/
structure DistOk (M : Nat) (es : List (Int × Int)) (v : Int) (ds : List Int) : Prop where
  len : ds.length = M
  near : ∀ u : Nat, u < M → (∃ k, Near es v k u) → ∃ d : Nat, ds[u]? = some (d : Int) ∧ Near es v d u ∧ ∀ d', d' < d → ¬ Near es v d' u
  far : ∀ u : Nat, u < M → ¬ (∃ k, Near es v k u) → ds[u]? = some (-1)
theorem DistOk.of_lay {M L : Nat} {es cur : List (Int × Int)} {v : Int} {ds : List Int} (h : Lay M es v (L + 1) ds cur) (hc : ∀ k u, Near es v k u → Near es v L u) : DistOk M es v ds where
  len := h.len
  near := fun u hu ⟨k, hk⟩ => by
    obtain ⟨d, _, h1, h2, h3⟩ := h.near u hu (hc k u hk).stay
    exact ⟨d, h1, h2, h3⟩
  far := fun u hu hn => h.far u hu fun g => hn ⟨_, g⟩
theorem edge_nat {M : Nat} {N : Int} {es : List (Int × Int)} (hB : edgesB N es = true) (hM : N = M) : ∀ e ∈ es, 0 ≤ e.1 ∧ e.1.toNat < M ∧ 0 ≤ e.2 ∧ e.2.toNat < M := fun e he => by
  have := all_edge hB he
  omega
theorem edge_wf {N : Int} {es : List (Int × Int)} (hB : edgesB N es = true) : ∀ e ∈ es, WfE e := fun e he => by
  have h1 := all_edge hB he
  have h2 := edgesB_lims hB
  exact ⟨WalkArith.wf_i64 (by omega), WalkArith.wf_i64 (by omega)⟩

set_option maxRecDepth 100000 in
set_option maxHeartbeats 4000000 in
theorem walkLayers_any (M v c : Nat) (A : Option Addr) (es : List (Int × Int)) (w : World) (hB : edgesB M es = true) (hv : v < M) (hE : EdgeS w w.heap.size A es) :
    Calls Try.prog 90 #[.agg #[.int .i64 (M : Int), .slice A es.length c], .int .i64 (v : Int)] w fun e w' => ∃ (g : Nat) (ds : List Int),
      e = .returned (.slice (some ⟨g, 0, none⟩) M M) ∧ DistOk M es v ds ∧ Blk w' g 3 (intCells ds).toArray ∧ w.heap.size ≤ g ∧ Below w.heap.size w w' := by
  obtain ⟨hM1, hM6, hn12⟩ := edgesB_lims hB
  have HEN := Lib.hid (edge_nat hB (M := M) rfl)
  have HWF := Lib.hid (edge_wf hB)
  have HE := Lib.hid hE
  clear hE hB
  have hx1 := (Blk.new w 39 #[.int .i64 (M : Int), .slice A es.length c]).alloc (Obj.cells #[.int .i64 (-1)] 3)
  have hx2 := (Blk.new (w.alloc (Obj.cells #[.int .i64 (M : Int), .slice A es.length c] 39)) 3 #[.int .i64 (-1)]).cell 0
  have hb0 : Below w.heap.size w ((w.alloc (Obj.cells #[.int .i64 (M : Int), .slice A es.length c] 39)).alloc (Obj.cells #[.int .i64 (-1)] 3)) := ((Below.refl _ _).alloc (Nat.le_refl _) _).alloc (by simp) _
  have hsz : w.heap.size + 1 < ((w.alloc (Obj.cells #[.int .i64 (M : Int), .slice A es.length c] 39)).alloc (Obj.cells #[.int .i64 (-1)] 3)).heap.size := by simp
  rw [World.size_alloc] at hx2
  go_enter Try.func90, Try.ntmps90
  go_wp2_with fail
  obtain ⟨W, hW⟩ : ∃ W : World, W = ((w.alloc (Obj.cells #[.int .i64 (M : Int), .slice A es.length c] 39)).alloc (Obj.cells #[.int .i64 (-1)] 3)) := ⟨_, rfl⟩
  rw [← hW] at hx1 hx2 hb0 hsz ⊢
  clear hW
  refine (repeat_any (w.heap.size + 1) M (-1) W hsz (by rw [hx2]; rfl) (by omega) (by omega)).mono ?_
  rintro e w2 ⟨rfl, hblk2, hb2⟩
  have hx3 := hx1.below hb2 hx1.lt
  have c0 : w2.cell? ⟨w.heap.size, 0, none⟩ = some (.int .i64 (M : Int)) := by rw [hx3.cell]; rfl
  have c1 : w2.cell? ⟨w.heap.size, 1, none⟩ = some (.slice A es.length c) := by rw [hx3.cell]; rfl
  have hv0 : (0 : Int) ≤ (v : Int) := Int.natCast_nonneg _
  have hv1 : (v : Int) < (M : Int) := by omega
  have cv := blk_get (u := v) (x := -1) hblk2 (by rw [List.getElem?_replicate, if_pos hv])
  have fv := hblk2.frozen v
  have hB2 : Below w.heap.size w w2 := hb0.trans (hb2.mono hb0.size)
  have hs2 := hB2.size
  have hs3 := hb2.size
  have hlt := hblk2.lt
  have HK2 := Lib.hid hblk2
  clear hx1 hx2 hx3 hblk2
  go_wp2_with fail
  have hk3 := blk_set1 HK2.out v 0
  have hB3 : Below w.heap.size w (w2.setCell ⟨W.heap.size, v, none⟩ (.int .i64 0)) := hB2.setCell (by simp only; omega) _
  have hsz3 : w2.heap.size ≤ (w2.setCell ⟨W.heap.size, v, none⟩ (.int .i64 0)).heap.size := by simp
  obtain ⟨w3, hw3⟩ : ∃ x : World, x = w2.setCell ⟨W.heap.size, v, none⟩ (.int .i64 0) := ⟨_, rfl⟩
  rw [← hw3] at hk3 hB3 hsz3 ⊢
  clear hw3 cv fv c0 c1 HK2
  refine (countEdges_any _ _ _ _ _ (by omega) HWF.out (HE.out.up_ hB3)).mono ?_
  rintro e w4 ⟨rfl, hcm, hb4⟩
  obtain ⟨sz0, hsz0, hms⟩ := MS.of_cm' hcm
  have hk4 := hk3.below hb4 hk3.lt
  have hB4 : Below w.heap.size w w4 := hB3.trans (hb4.mono hB3.size)
  have hg3 := hk3.lt
  have HL0 := Lib.hid (Lay.start M v es hv)
  have HK4 := Lib.hid hk4
  have HM4 := Lib.hid hms
  clear hk3 hcm hb4 hk4 hms
  obtain ⟨Bm, hBm⟩ : ∃ x, x = w3.heap.size + 1 := ⟨_, rfl⟩
  rw [← hBm] at HM4 ⊢
  obtain ⟨g, hg⟩ : ∃ x, x = W.heap.size := ⟨_, rfl⟩
  rw [← hg] at HK4 hg3 hlt ⊢
  have hgw : w.heap.size ≤ g := by omega
  have hBw : w.heap.size ≤ Bm := by omega
  have hne : Bm ≠ g := by omega
  clear hBm hg
  go_wp2_with fail
  go_loopw [7] (fun i wr => ∃ (L : Nat) (cur : List (Int × Int)) (ds : List Int) (sz : Nat), i = .int .i64 L ∧ L + sz ≤ sz0 ∧ MS wr Bm cur sz ∧ Blk wr g 3 (intCells ds).toArray ∧ Lay M es v L ds cur ∧ (∀ e ∈ cur, e ∈ es) ∧ Below w.heap.size w wr) (fun _ wr => mapSize wr Bm)
  case atStart => exact ⟨0, es, _, sz0, rfl, by omega, HM4.out, HK4.out, HL0.out, fun e h => h, hB4⟩
  case round =>
    obtain ⟨L, cur, ds, sz, rfl, hLs, hms, hblk, hlay, hsub, hb⟩ := hrel
    have HMS := Lib.hid hms
    have HLY := Lib.hid hlay
    have HSU := Lib.hid hsub
    have HBK := Lib.hid hblk
    have hlen := hlay.len
    clear hms hblk hlay hsub
    have hc := cross_any Bm g M cur ds L sz wr (by omega) (fun e he => ⟨HWF.out e (HSU.out e he), by have := HEN.out e (HSU.out e he); rw [hlen]; exact this⟩) HMS.out HBK.out hne
    rw [hlen] at hc
    have HC := Lib.hid hc
    clear hc
    go_wp2_with fail
    refine HC.out.mono ?_
    rintro e w5 ⟨left, esc, dsc, sz', rfl, hmid, hleft, hms5, hblk5, hbel5⟩
    have hB5 : Below w.heap.size w w5 := hb.trans (hbel5 _ hBw hgw hb.size)
    have HN5 := Lib.hid (HLY.out.next HEN.out hmid hleft)
    have HS5 : Hid (∀ e ∈ esc, e ∈ es) := Lib.hid fun e he => HSU.out e ((hmid.rest e).1 he).1
    have HM5 := Lib.hid hms5
    have HK5 := Lib.hid hblk5
    by_cases hz : sz' < sz
    · have hz1 : decide (sz' < sz) = true := decide_eq_true hz
      clear hmid hleft hms5 hblk5 hbel5
      go_wp2
      exact ⟨⟨L + 1, esc, dsc, sz', by go_num, by omega, HM5.out, HK5.out, HN5.out, HS5.out, hB5⟩, by rw [HM5.out.size_eq, HMS.out.size_eq]; exact hz⟩
    · have hz1 : decide (sz' < sz) = false := decide_eq_false hz
      have HD := Lib.hid (DistOk.of_lay HN5.out (HLY.out.closed HEN.out hmid hleft hz))
      clear hmid hleft hms5 hblk5 hbel5
      go_wp2
      go_ret
      exact ⟨g, dsc, rfl, HD.out, HK5.out, hgw, hB5⟩
end Go.Proofs.Ytkmbdclhjdbhpab
