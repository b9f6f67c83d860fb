/- One text out of several: Conn FireS Deg. -/
import Derived.Test.YtfeaphgpomfojabPBG
import Derived.Test.YtfeaphgpomfojabPBB
import Derived.Test.YtfeaphgpomfojabPBI
import Derived.Deep.CutRange
import Derived.Test.YtfeaphgpomfojabPBA
/- A connected graph is cut by every set of vertices. -/
namespace Go.Proofs.Ytfeaphgpomfojab
open Go.RowKit

theorem near_cut {es : List (Int × Int)} {p : Int → Bool} {v : Int} {k : Nat} {u : Int} (h : Near es v k u) (hne : p v ≠ p u) : ∃ e ∈ es, p e.1 ≠ p e.2 := by
  induction h with
  | start => exact absurd rfl hne
  | stay _ ih => exact ih hne
  | @step k a b _ ht ih =>
    by_cases hab : p v = p a
    · rcases ht with g | g
      · exact ⟨(a, b), g, by rw [← hab]; exact hne⟩
      · exact ⟨(b, a), g, by simp only; rw [← hab]; exact Ne.symm hne⟩
    · exact ih hab
theorem Conn.cut {M : Nat} {es : List (Int × Int)} (h : Conn (M : Int) es) : Cut M es := by
  rintro p ⟨x, hx0, hx1, hpx⟩ ⟨y, hy0, hy1, hpy⟩
  obtain ⟨k1, n1⟩ := h x hx0 hx1
  obtain ⟨k2, n2⟩ := h y hy0 hy1
  cases hp : p 0 with
  | true => exact near_cut n2 (by rw [hp, hpy]; decide)
  | false => exact near_cut n1 (by rw [hp, hpx]; decide)
end Go.Proofs.Ytfeaphgpomfojab

/- The specification's l04Fire. -/
namespace Go.Proofs.Ytfeaphgpomfojab
open Go.RowKit

def specF (d s : List Int) (es : List (Int × Int)) (k u : Nat) : Int := d.getD u 0 + terms s u (es.take k)
theorem specF_step (d s : List Int) {es : List (Int × Int)} {k a b : Nat} {sa sb : Int} (he : es[k]? = some ((a : Int), (b : Int))) (hab : a ≠ b) (ha : s[a]? = some sa) (hb : s[b]? = some sb) (u : Nat) :
    addAt (addAt (specF d s es k) a (sb - sa)) b (sa - sb) u = specF d s es (k + 1) u := by
  have h1 : s.getD a 0 = sa := by simp [List.getD, ha]
  have h2 : s.getD b 0 = sb := by simp [List.getD, hb]
  have hT := terms_snoc s u he
  have hterm : term s u ((a : Int), (b : Int)) = ind u a * (sb - sa) + ind u b * (sa - sb) := by simp only [term, Int.toNat_natCast, h1, h2]
  simp only [addAt, specF, hT, hterm]
  unfold ind
  by_cases e1 : u = b
  · subst e1
    rw [if_pos rfl, if_neg (Ne.symm hab), if_neg (by omega), if_pos rfl]
    omega
  · rw [if_neg e1]
    by_cases e2 : u = a
    · subst e2
      rw [if_pos rfl, if_pos rfl, if_neg (by omega)]
      omega
    · rw [if_neg e2, if_neg (by omega), if_neg (by omega)]
      omega
theorem specF_zero (d s : List Int) (es : List (Int × Int)) : specF d s es 0 = fun u => d.getD u 0 := by funext u; simp [specF, terms]
theorem specF_all (M : Nat) (d s : List Int) (es : List (Int × Int)) {k : Nat} (h : es.length ≤ k) : chipsOf M (specF d s es k) = firedB M es d s := chipsOf_eq fun u _ => by rw [specF, List.take_of_length_le h]
theorem wrap3 (x sa sb : Int) : wrap64 (wrap64 (wrap64 x - sa) + sb) = wrap64 (x + (sb - sa)) := by unfold wrap64; omega
theorem own_emptyF (w : World) (base : Nat) (hb : base ≤ w.heap.size) (t : TypeId) : (w.alloc (.cells #[] t)).ownsRow base t 1 (.slice (some ⟨w.heap.size, 0, none⟩) 0 0) 0 [] :=
  ⟨rfl, .inr ⟨w.heap.size, 0, #[], rfl, hb, heap_alloc_new w _, Nat.le_refl _, Nat.zero_le _, rfl, rfl⟩⟩

set_option maxRecDepth 100000 in
set_option maxHeartbeats 4000000 in
theorem l04Fire_any (N : Int) (M : Nat) (A D S : Option Addr) (c cd cs : Nat) (es : List (Int × Int)) (d s : List Int) (w : World) (hM0 : 0 < M) (hM6 : M ≤ 6) (hn : es.length ≤ 12) (hdl : d.length = M) (hsl : s.length = M)
    (hdw : ∀ x ∈ d, -9223372036854775808 ≤ x ∧ x ≤ 9223372036854775807) (hes : ∀ e ∈ es, 0 ≤ e.1 ∧ e.1 < e.2 ∧ e.2 < (M : Int)) (hE : EdgeS w w.heap.size A es) (hD : IntS w w.heap.size D d) (hS : IntS w w.heap.size S s) :
    Calls Try.prog 79 #[.agg #[.int .i64 N, .slice A es.length c], .slice D d.length cd, .slice S s.length cs] w (GivesInts w (firedB M es d s)) := by
  obtain ⟨i0, hi, hz0, hz1, hz2⟩ := info_parts intInfo
  obtain ⟨bd, od, rfl, hbd, hcd⟩ := hD (by omega)
  have hst := chips_start hdl hdw
  have HST := Lib.hid hst
  have HDL := Lib.hid hdl
  have HSL := Lib.hid hsl
  have HE := Lib.hid hE
  have HS := Lib.hid hS
  have HES := Lib.hid hes
  have HCD := Lib.hid hcd
  have hd6 : d.length ≤ 6 := by omega
  have hs6 : s.length ≤ 6 := by omega
  have hd0 : 0 < d.length := by omega
  have hO0 := own_emptyF (w.alloc (Obj.cells #[.int .i64 N, .slice A es.length c] 25)) w.heap.size (by simp) 3
  rw [World.size_alloc] at hO0
  have HO0 := Lib.hid hO0
  have hbA : Below w.heap.size w ((w.alloc (Obj.cells #[.int .i64 N, .slice A es.length c] 25)).alloc (Obj.cells #[] 3)) := ((Below.refl _ _).alloc (Nat.le_refl _) _).alloc (by simp) _
  clear hO0 hE hS hes hD hst hdl hsl hcd hdw
  go_enter Try.func79, Try.ntmps79
  go_wp2_with (at_builtin; refine wpList_append_own _ rfl _ _ 28 rfl w.heap.size 3 i0 (.int .i64 0) 1 8 Try.underlying28 hi hz0 hz1 hz2 rfl (by decide) _ _ _ rfl HO0.out ⟨bd, od, none⟩ d.length cd (intCells d) rfl ?c0 ?c1 ?c2 ?c3 ?c4 ?c5 ?_)
  case c0 => simp [intCells]
  case c1 =>
    intro j u hj
    simp only [intCells, List.getElem?_map, Option.map_eq_some_iff] at hj
    obtain ⟨z, hz, rfl⟩ := hj
    rw [Addr.add_lit]
    exact (hbA.cell (p := ⟨bd, od + j, none⟩) hbd).trans (HCD.out j z hz)
  case c2 =>
    intro u hu
    simp only [intCells, List.mem_map] at hu
    obtain ⟨z, _, rfl⟩ := hu
    rfl
  case c3 => unfold maxLen; omega
  case c4 => omega
  case c5 => simp; omega
  intro v' w1 hown hgrow _
  obtain ⟨g, cg, rfl, hg, hch⟩ := Chips.of_own (l := d) hown hd0
  have hb1 : Below w.heap.size w w1 := hbA.grown hgrow (by simp; omega) (fun q hq => (HO0.out.lt q hq).1)
  have hbx1 := ((Blk.new w 25 #[.int .i64 N, .slice A es.length c]).alloc (Obj.cells #[] 3)).moves (grownMv (g := w.heap.size + 1) hgrow) (.inl (by omega))
  have x1 : w1.cell? ⟨w.heap.size, 1, none⟩ = some (.slice A es.length c) := by rw [hbx1.cell]; rfl
  clear hbx1
  have hch0 := hch
  rw [← HST.out, ← specF_zero d s es] at hch0
  have HCH := Lib.hid hch0
  have HDM := Lib.hid (show d.length = M from HDL.out)
  clear hown hgrow hch hch0 hbA HCD
  go_wp2
  go_loopw [16] (fun i wr => ∃ k : Nat, k ≤ es.length ∧ i = .int .i64 k ∧ Chips wr g (chipsOf M (specF d s es k)) ∧ Below w.heap.size w wr) (fun i _ => es.length - (intOf i).toNat)
  case atStart => exact ⟨0, Nat.zero_le _, rfl, HCH.out, hb1⟩
  case round =>
    obtain ⟨k, hk, rfl, hcr, hb⟩ := hrel
    have HK := Lib.hid hcr
    clear hcr
    by_cases hlt : k < es.length
    · obtain ⟨b1, o1, e, rfl, hb1', he, hc0, hc1⟩ := (HE.out.below hb).at_ hlt
      obtain ⟨h1, h2, h3⟩ := HES.out e (List.mem_of_getElem? he)
      obtain ⟨x, y⟩ := e
      simp only at h1 h2 h3 hc0 hc1
      obtain ⟨a, rfl⟩ : ∃ a : Nat, x = (a : Int) := ⟨x.toNat, by omega⟩
      obtain ⟨b, rfl⟩ : ∃ b : Nat, y = (b : Int) := ⟨y.toNat, by omega⟩
      have haM : a < M := by omega
      have hbM : b < M := by omega
      have hab : a ≠ b := by omega
      obtain ⟨bs, os, sa, rfl, hbs, hsa, ea⟩ := (HS.out.below hb).at_ (k := a) (by have := HSL.out; omega)
      obtain ⟨bs2, os2, sb, hS2, _, hsb, eb⟩ := (HS.out.below hb).at_ (k := b) (by have := HSL.out; omega)
      injection hS2 with hS2
      injection hS2 with hS3 hS4
      subst hS3
      subst hS4
      have HF := Lib.hid (chipsOf_eq (M := M) fun u _ => specF_step d s he hab hsa hsb u)
      have hi0 : (0 : Int) ≤ (k : Int) := Int.natCast_nonneg _
      have hi1 : (k : Int) < (es.length : Int) := by omega
      have ha0 : (0 : Int) ≤ (a : Int) := Int.natCast_nonneg _
      have hb0 : (0 : Int) ≤ (b : Int) := Int.natCast_nonneg _
      have ha1 : (a : Int) < (d.length : Int) := by have := HDM.out; omega
      have hb2 : (b : Int) < (d.length : Int) := by have := HDM.out; omega
      have ha3 : (a : Int) < (s.length : Int) := by have := HSL.out; omega
      have hb3 : (b : Int) < (s.length : Int) := by have := HSL.out; omega
      have hbAA : Below wr.heap.size wr (wr.alloc (Obj.cells #[.int .i64 (a : Int), .int .i64 (b : Int)] 94)) := (Below.refl _ _).alloc (Nat.le_refl _) _
      have hblk0 := Blk.new wr 94 #[.int .i64 (a : Int), .int .i64 (b : Int)]
      have hC0 := HK.out.below hbAA
      have D0 := hb.alloc hb.size (Obj.cells #[.int .i64 (a : Int), .int .i64 (b : Int)] 94)
      have hbsw : bs < wr.heap.size := by have := hb.size; omega
      have hgw : g < wr.heap.size := HK.out.lt
      have ea0 := (hbAA.cell (p := ⟨bs, os + a, none⟩) hbsw).trans ea
      have eb0 := (hbAA.cell (p := ⟨bs, os + b, none⟩) hbsw).trans eb
      have C0 := Lib.hid hC0
      have BE := Lib.hid hblk0
      have HAB := Lib.hid hab
      have hbg : bs < g := by omega
      have hww : w.heap.size ≤ wr.heap.size := hb.size
      clear he hsa hsb ea eb hC0 hblk0 hbAA h1 h2 h3 hab hb1
      go_wp2_with fail
      obtain ⟨W0, hW0⟩ : ∃ X : World, X = wr.alloc (Obj.cells #[.int .i64 (a : Int), .int .i64 (b : Int)] 94) := ⟨_, rfl⟩
      rw [← hW0] at C0 BE D0 ea0 eb0 ⊢
      clear hW0 hc0 hc1
      have p0 : W0.cell? ⟨wr.heap.size, 0, none⟩ = some (.int .i64 (a : Int)) := by rw [BE.out.cell]; rfl
      have q0 : W0.cell? ⟨wr.heap.size, 1, none⟩ = some (.int .i64 (b : Int)) := by rw [BE.out.cell]; rfl
      obtain ⟨d0, f0⟩ := C0.out.cell a _ (chipsOf_at _ haM)
      have C1 := C0.out.set_ (a := a) (by rw [chipsOf_len]; exact haM) (wrap64 (wrap64 (wrap64 (specF d s es k a) - sa) + sb))
      rw [chipsOf_set M _ a _ (sb - sa) (wrap3 _ _ _)] at C1
      have C1' := Lib.hid (C1.below (Below.refl _ _).drew)
      clear C1
      have D1 := (D0.setCell (p := ⟨g, a, none⟩) hg (.int .i64 (wrap64 (wrap64 (wrap64 (specF d s es k a) - sa) + sb)))).drew
      have BE1 := Lib.hid ((BE.out.far (p := ⟨g, a, none⟩) (by simp only; omega) (.int .i64 (wrap64 (wrap64 (wrap64 (specF d s es k a) - sa) + sb)))).drew)
      have ea1 : (W0.setCell ⟨g, a, none⟩ (.int .i64 (wrap64 (wrap64 (wrap64 (specF d s es k a) - sa) + sb)))).drew.cell? ⟨bs, os + a, none⟩ = some (.int .i64 sa) := by
        show (W0.setCell _ _).cell? _ = _
        rw [World.cell?_setCell_other _ _ _ _ (by simp only [ne_eq, Addr.mk.injEq]; omega)]; exact ea0
      have eb1 : (W0.setCell ⟨g, a, none⟩ (.int .i64 (wrap64 (wrap64 (wrap64 (specF d s es k a) - sa) + sb)))).drew.cell? ⟨bs, os + b, none⟩ = some (.int .i64 sb) := by
        show (W0.setCell _ _).cell? _ = _
        rw [World.cell?_setCell_other _ _ _ _ (by simp only [ne_eq, Addr.mk.injEq]; omega)]; exact eb0
      obtain ⟨W1, hW1⟩ : ∃ X : World, X = (W0.setCell ⟨g, a, none⟩ (.int .i64 (wrap64 (wrap64 (wrap64 (specF d s es k a) - sa) + sb)))).drew := ⟨_, rfl⟩
      rw [← hW1] at C1' D1 BE1 ea1 eb1
      have HW1 := Lib.hid hW1
      clear hW1
      go_cut [16] from 16 to 62 (fun s16 wx => s16 = .int .i64 (k : Int) ∧ wx = W1)
      case first =>
        clear C1' D1 BE1 ea1 eb1 HF HE HS HES HST HDL HSL HO0 HCH HDM HK hb D0
        go_region
        go_wp2_with fail
        go_meet
        exact ⟨rfl, HW1.out.symm⟩
      case rest =>
        obtain ⟨rfl, rfl⟩ := hcut
        obtain ⟨V, rfl⟩ : ∃ V, V = wc := ⟨_, rfl⟩
        clear p0 q0 d0 f0 D0 ea0 eb0 C0 BE HW1
        have p1 : V.cell? ⟨wr.heap.size, 0, none⟩ = some (.int .i64 (a : Int)) := by rw [BE1.out.cell]; rfl
        have q1 : V.cell? ⟨wr.heap.size, 1, none⟩ = some (.int .i64 (b : Int)) := by rw [BE1.out.cell]; rfl
        obtain ⟨d1, f1⟩ := C1'.out.cell b _ (chipsOf_at _ hbM)
        have C2 := C1'.out.set_ (a := b) (by rw [chipsOf_len]; exact hbM) (wrap64 (wrap64 (wrap64 (addAt (specF d s es k) a (sb - sa) b) - sb) + sa))
        rw [chipsOf_set M _ b _ (sa - sb) (wrap3 _ _ _), HF.out] at C2
        have C2' := Lib.hid (C2.below (Below.refl _ _).drew)
        have D2 := Lib.hid ((D1.setCell (p := ⟨g, b, none⟩) hg (.int .i64 (wrap64 (wrap64 (wrap64 (addAt (specF d s es k) a (sb - sa) b) - sb) + sa)))).drew)
        clear C2 D1 HF
        clear C1' BE1 HE HS HES HST HSL HO0 HCH HK hb HAB
        go_wp2_with fail
        go_region
        go_wp2
        go_roundw
        case rel => exact ⟨k + 1, by omega, by go_num, C2'.out, D2.out⟩
        case measure => simp [intOf]; omega
    · have hK2 := HK.out
      rw [specF_all M d s es (by omega)] at hK2
      have HK2 := Lib.hid (hK2.own (base := w.heap.size) hg)
      have HFL := Lib.hid (firedB_len M es d s)
      clear hK2
      go_wp2
      go_ret
      exact ⟨some ⟨g, 0, none⟩, cg, by rw [HFL.out, ← HDM.out]; rfl, HK2.out, hb⟩
end Go.Proofs.Ytfeaphgpomfojab

/- DegreeOf: both sides are one plain sum that wraps. -/
namespace Go.Proofs.Ytfeaphgpomfojab
open Go.RowKit

end Go.Proofs.Ytfeaphgpomfojab
