/- The specification's ReducedLaplacian. -/
import Derived.Test.YtbmihbbpdmpmpaaBE
import Derived.Test.YtbmihbbpdmpmpaaBD
namespace Go.Proofs.Ytbmihbbpdmpmpaa
open Go.RowKit

/-- a matrix without the row and the column q -/
def redM (q : Nat) (L : List (List Int)) : List (List Int) := (L.eraseIdx q).map fun r => r.eraseIdx q
theorem redM_skip {q a : Nat} {L : List (List Int)} {r : List Int} (h : L[a]? = some r) (e : a = q) : redM q (L.take (a + 1)) = redM q (L.take a) := by
  subst e
  have hl : (L.take a).length = a := by have := (List.getElem?_eq_some_iff.1 h).1; rw [List.length_take]; omega
  rw [redM, redM, List.take_add_one, h, Option.toList_some, List.eraseIdx_append_of_length_le (by omega), hl, Nat.sub_self, List.eraseIdx_cons_zero, List.append_nil, List.eraseIdx_of_length_le (by omega)]
theorem redM_push {q a : Nat} {L : List (List Int)} {r : List Int} (h : L[a]? = some r) (e : a ≠ q) : redM q (L.take (a + 1)) = redM q (L.take a) ++ [r.eraseIdx q] := by
  have hl : (L.take a).length = a := by have := (List.getElem?_eq_some_iff.1 h).1; rw [List.length_take]; omega
  rw [redM, redM, List.take_add_one, h, Option.toList_some]
  rcases Nat.lt_or_ge q a with l | l
  · rw [List.eraseIdx_append_of_lt_length (by omega), List.map_append]
    rfl
  · rw [List.eraseIdx_of_length_le (by rw [List.length_append, hl]; simp; omega), List.map_append, List.eraseIdx_of_length_le (by omega)]
    rfl
theorem redM_len {q : Nat} {L : List (List Int)} : (redM q L).length ≤ L.length := by
  rw [redM, List.length_map, List.length_eraseIdx]
  split <;> omega
theorem own_types2 {w : World} {base base2 e1 e2 s1 s2 n1 n2 : Nat} {v1 v2 : Value} {x1 x2 : List Value} (h1 : w.ownsRow base e1 s1 v1 n1 x1) (h2 : w.ownsRow base2 e2 s2 v2 n2 x2) (hne : e1 ≠ e2) : v1.ownBlock = none ∨ v1.ownBlock ≠ v2.ownBlock :=
  own_types (ownsRow_mono h1 (Nat.zero_le _)) (ownsRow_mono h2 (Nat.zero_le _)) hne
/-- rows built one by one: the outer row from b1 on, the inner ones from b2 on -/
def SSOwn2 (w : World) (b1 b2 : Nat) (v : Value) (rs : List (List Int)) : Prop :=
  ∃ vs : List Value, w.ownsRow b1 43 1 v rs.length vs ∧ ∀ (i : Nat) (r : List Int), rs[i]? = some r → ∃ u, vs[i]? = some u ∧ QOwn w b2 u r
theorem SSOwn2.one {w : World} {b1 b2 : Nat} {v : Value} {rs : List (List Int)} (h : SSOwn2 w b1 b2 v rs) (hb : b1 ≤ b2) : SSOwn w b1 v rs := by
  obtain ⟨vs, h1, h2⟩ := h
  refine ⟨vs, h1, fun i r hr => ?_⟩
  obtain ⟨u, hu, hq⟩ := h2 i r hr
  exact ⟨u, hu, ownsRow_mono hq hb⟩
theorem SSOwn2.push {w w1 : World} {b1 b2 : Nat} {v v' u : Value} {rs : List (List Int)} {r : List Int} {vs : List Value} (h1 : w.ownsRow b1 43 1 v rs.length vs) (h2 : ∀ (i : Nat) (r : List Int), rs[i]? = some r → ∃ u, vs[i]? = some u ∧ QOwn w b2 u r)
    (hr : QOwn w b2 u r) (ho : w1.ownsRow b1 43 1 v' (rs.length + 1) (vs ++ [u])) (hg : w.grownBy w1 v.ownBlock) : SSOwn2 w1 b1 b2 v' (rs ++ [r]) := by
  have keep : ∀ {x : Value} {p : List Int}, QOwn w b2 x p → QOwn w1 b2 x p := fun hq => World.ownsRow.kept hq hg (own_types2 hq h1 (by decide))
  have hl : vs.length = rs.length := by have := h1.1; omega
  refine ⟨vs ++ [u], by simpa using ho, fun i p hp => ?_⟩
  rcases Nat.lt_or_ge i rs.length with l | l
  · rw [List.getElem?_append_left l] at hp
    obtain ⟨x, hx, hq⟩ := h2 i p hp
    exact ⟨x, by rw [List.getElem?_append_left (by omega)]; exact hx, keep hq⟩
  · rw [List.getElem?_append_right l] at hp
    have hi : i - rs.length = 0 := by
      have := (List.getElem?_eq_some_iff.1 hp).1
      simp at this
      omega
    rw [hi] at hp
    simp only [List.getElem?_cons_zero, Option.some.injEq] at hp
    subst hp
    exact ⟨u, by rw [List.getElem?_append_right (by omega), show i - vs.length = 0 by omega]; rfl, keep hr⟩
/-- rows that lie from b2 on are not pointed at by a block whose first cell points below b2 -/
theorem SSOwn2.apart {w : World} {b1 b2 gL x o n c : Nat} {v : Value} {rs : List (List Int)} (h : SSOwn2 w b1 b2 v rs) (hn : 0 < rs.length) (hc : w.cell? ⟨gL, 0, none⟩ = some (.slice (some ⟨x, o, none⟩) n c)) (hx : x < b2) : v.ownBlock ≠ some gL := by
  obtain ⟨vs, h1, h2⟩ := h
  obtain ⟨u, hu, hq⟩ := h2 0 _ (List.getElem?_eq_getElem hn)
  intro e
  have := h1.cells e 0 u hu
  rw [Addr.add_lit, Nat.add_zero, hc] at this
  injection this with this
  subst this
  have := (World.ownsRow.lt hq x rfl).1
  omega
/-- one row of rows built one by one, to be read -/
theorem SSOwn.at_ {w : World} {base : Nat} {v : Value} {rs : List (List Int)} {a : Nat} {r : List Int} (h : SSOwn w base v rs) (hr : rs[a]? = some r) (hz : 0 < r.length) :
    ∃ (g cap b c : Nat), v = .slice (some ⟨g, 0, none⟩) rs.length cap ∧ base ≤ g ∧ g < w.heap.size ∧ w.cell? ⟨g, a, none⟩ = some (.slice (some ⟨b, 0, none⟩) r.length c) ∧ r.length ≤ c ∧ base ≤ b ∧ b < w.heap.size ∧ ∀ (i : Nat) (x : Int), r[i]? = some x → w.cell? ⟨b, i, none⟩ = some (.int .i64 x) := by
  obtain ⟨vs, h1, h2⟩ := h
  obtain ⟨u, hu, hq⟩ := h2 a r hr
  have hal : a < rs.length := (List.getElem?_eq_some_iff.1 hr).1
  rcases h1.2 with ⟨_, e0⟩ | ⟨g, cap, cur, e, hb, hg, hnc, _, hcs, htk⟩
  · omega
  · have hob : v.ownBlock = some g := by rw [e]; rfl
    have hc := h1.cells hob a u hu
    rw [Addr.add_lit, Nat.zero_add] at hc
    rcases hq.2 with ⟨_, e0⟩ | ⟨b, c, cur2, e2, hb2, hg2, hnc2, _, _, _⟩
    · omega
    · refine ⟨g, cap, b, c, e, hb, (h1.lt g hob).2, by rw [hc, e2], hnc2, hb2, (World.ownsRow.lt hq b (by rw [e2]; rfl)).2, fun i x hx => ?_⟩
      have := World.ownsRow.cells hq (by rw [e2]; rfl) i (.int .i64 x) (by simp [intCells, hx])
      rwa [Addr.add_lit, Nat.zero_add] at this
theorem SSOwn2.keep {w w' : World} {b1 b2 : Nat} {v : Value} {rs : List (List Int)} (h : SSOwn2 w b1 b2 v rs) (hb : Below w.heap.size w w') : SSOwn2 w' b1 b2 v rs := by
  obtain ⟨vs, h1, h2⟩ := h
  refine ⟨vs, h1.kept (row := none) ⟨hb.os, hb.tape, hb.output, hb.size, fun i hi _ => hb.block i hi⟩ (Classical.em _), fun i r hr => ?_⟩
  obtain ⟨u, hu, hq⟩ := h2 i r hr
  exact ⟨u, hu, hq.below hb⟩
/-- a row of ints that grows, itself new, leaves what lay before it -/
theorem grown_below {W w1 : World} {B : Nat} {row : Option Nat} (hg : W.grownBy w1 row) (hB : B ≤ W.heap.size) (hr : ∀ k, row = some k → B ≤ k) : Below B W w1 :=
  ⟨hg.os, hg.tape, hg.output, hg.size, fun i hi => hg.block i (by omega) (fun e => by have := hr i e.symm; omega)⟩
theorem erase_cells (r : List Int) (q : Nat) : [] ++ intCells (r.take q) ++ intCells (r.drop (q + 1)) = intCells (r.eraseIdx q) := by
  rw [List.nil_append, List.eraseIdx_eq_take_drop_succ]
  simp [intCells]
theorem own_sl {w : World} {base n s : Nat} {e : TypeId} {v : Value} {xs : List Value} (h : w.ownsRow base e s v n xs) : ∃ (A : Option Addr) (m c : Nat), v = .slice A m c := by
  rcases h.2 with ⟨h1, _⟩ | ⟨g, cap, cur, h1, _⟩
  · exact ⟨none, 0, 0, h1⟩
  · exact ⟨_, n, cap, h1⟩
theorem own_one {w : World} {base n s : Nat} {e : TypeId} {v : Value} {xs : List Value} (h : w.ownsRow base e s v n xs) : v.oneCell' = true := by
  rcases h.2 with ⟨h1, _⟩ | ⟨g, cap, cur, h1, _⟩ <;> rw [h1] <;> rfl
/-- .. the values told -/
def SSOwnV (w : World) (base : Nat) (v : Value) (vs : List Value) (rs : List (List Int)) : Prop :=
  w.ownsRow base 43 1 v rs.length vs ∧ ∀ (i : Nat) (r : List Int), rs[i]? = some r → ∃ u, vs[i]? = some u ∧ QOwn w base u r
theorem SSOwnV.one {w : World} {base : Nat} {v : Value} {vs : List Value} {rs : List (List Int)} (h : SSOwnV w base v vs rs) : SSOwn w base v rs := ⟨vs, h.1, h.2⟩
theorem SSOwnV.keep {w w' : World} {base : Nat} {v : Value} {vs : List Value} {rs : List (List Int)} (h : SSOwnV w base v vs rs) (hb : Below w.heap.size w w') : SSOwnV w' base v vs rs := by
  obtain ⟨h1, h2⟩ := h
  refine ⟨h1.kept (row := none) ⟨hb.os, hb.tape, hb.output, hb.size, fun i hi _ => hb.block i hi⟩ (Classical.em _), fun i r hr => ?_⟩
  obtain ⟨u, hu, hq⟩ := h2 i r hr
  exact ⟨u, hu, hq.below hb⟩
theorem SSOwnV.far {w w1 : World} {base b1 n : Nat} {v out : Value} {us : List Value} {rs : List (List Int)} {xs : List Value} (h : SSOwnV w base v us rs) (ho : w.ownsRow b1 43 1 out n xs) (hne : v.ownBlock ≠ out.ownBlock) (hg : w.grownBy w1 out.ownBlock) : SSOwnV w1 base v us rs := by
  obtain ⟨h1, h2⟩ := h
  refine ⟨h1.kept hg (.inr hne), fun i r hr => ?_⟩
  obtain ⟨u, hu, hq⟩ := h2 i r hr
  exact ⟨u, hu, World.ownsRow.kept hq hg (own_types2 hq ho (by decide))⟩
/-- a row of ints is made and appended to rows, while other rows lie by -/
theorem push_step {wr w2 : World} {lo b2 : Nat} {vL vOut v2 : Value} {L rs : List (List Int)} {r : List Int} {w0 : World} {vs vsL : List Value} {gL x o n c : Nat}
    (hb : Below w0.heap.size w0 wr) (hb2 : b2 ≤ wr.heap.size)
    (ho1 : wr.ownsRow w0.heap.size 43 1 vOut rs.length vs) (ho2 : ∀ (i : Nat) (r : List Int), rs[i]? = some r → ∃ u, vs[i]? = some u ∧ QOwn wr b2 u r)
    (hne : vOut.ownBlock ≠ some gL) (hL : SSOwnV wr lo vL vsL L) (hvL : vL.ownBlock = some gL) (hcL : wr.cell? ⟨gL, 0, none⟩ = some (.slice (some ⟨x, o, none⟩) n c)) (hx : x < b2)
    (bC : Below wr.heap.size wr w2) (kq2 : QOwn w2 wr.heap.size v2 r) :
    (w2.alloc (Obj.cells #[v2] 43)).ownsRow w0.heap.size 43 1 vOut rs.length vs ∧ w0.heap.size ≤ (w2.alloc (Obj.cells #[v2] 43)).heap.size ∧
    ∀ (w4 : World) (v' : Value), (w4.ownsRow w0.heap.size 43 1 v' (rs.length + 1) (vs ++ [v2])) → World.grownBy (w2.alloc (Obj.cells #[v2] 43)) w4 vOut.ownBlock →
      SSOwn2 w4 w0.heap.size b2 v' (rs ++ [r]) ∧ v'.ownBlock ≠ some gL ∧ SSOwnV w4 lo vL vsL L ∧ Below w0.heap.size w0 w4 ∧ b2 ≤ w4.heap.size ∧ w4.cell? ⟨gL, 0, none⟩ = some (.slice (some ⟨x, o, none⟩) n c) := by
  have bD : Below wr.heap.size wr (w2.alloc (Obj.cells #[v2] 43)) := bC.alloc bC.size _
  have s3 := bD.size
  have sb := hb.size
  have k1 := ho1.kept (row := none) ⟨bD.os, bD.tape, bD.output, bD.size, fun i hi _ => bD.block i hi⟩ (Classical.em _)
  have kq : QOwn (w2.alloc (Obj.cells #[v2] 43)) b2 v2 r := ownsRow_mono (World.ownsRow.alloc kq2 _) hb2
  refine ⟨k1, by omega, fun w4 v' o4 g4 => ?_⟩
  have P := SSOwn2.push k1 (fun i r hr => by
    obtain ⟨u, hu, hq⟩ := ho2 i r hr
    exact ⟨u, hu, hq.below bD⟩) kq o4 g4
  have hgl : gL < wr.heap.size := by
    exact (hL.1.lt gL hvL).2
  have hc3 : (w2.alloc (Obj.cells #[v2] 43)).cell? ⟨gL, 0, none⟩ = some (.slice (some ⟨x, o, none⟩) n c) := (bD.cell (p := ⟨gL, 0, none⟩) hgl).trans hcL
  have hc4 : w4.cell? ⟨gL, 0, none⟩ = some (.slice (some ⟨x, o, none⟩) n c) := (World.cell?_of_block (a := ⟨gL, 0, none⟩) (g4.block gL (by omega) (fun e => hne e.symm))).trans hc3
  have hL3 := hL.keep bD
  refine ⟨P, P.apart (by simp) hc4 hx, hL3.far k1 (by rw [hvL]; exact fun e => hne e.symm) g4, (hb.trans (bD.mono sb)).grown g4 (by omega) (fun k e => (ho1.lt k e).1), ?_, hc4⟩
  have := g4.size
  omega
/-- what the three appends of a round make of all that is held -/
theorem red_step {wr w1 w2 : World} {lo b2 q : Nat} {vL vOut v1 v2 : Value} {L rs : List (List Int)} {r : List Int} {w0 : World} {vs vsL : List Value} {gL x o n c : Nat}
    (hb : Below w0.heap.size w0 wr) (hb2 : b2 ≤ wr.heap.size)
    (ho1 : wr.ownsRow w0.heap.size 43 1 vOut rs.length vs) (ho2 : ∀ (i : Nat) (r : List Int), rs[i]? = some r → ∃ u, vs[i]? = some u ∧ QOwn wr b2 u r)
    (hne : vOut.ownBlock ≠ some gL) (hL : SSOwnV wr lo vL vsL L) (hvL : vL.ownBlock = some gL) (hcL : wr.cell? ⟨gL, 0, none⟩ = some (.slice (some ⟨x, o, none⟩) n c)) (hx : x < b2)
    (o1 : w1.ownsRow wr.heap.size 3 1 v1 (0 + q) ([] ++ intCells (r.take q))) (g1 : World.grownBy (wr.drew.alloc (Obj.cells #[] 3)) w1 (some wr.heap.size))
    (o2 : w2.ownsRow wr.heap.size 3 1 v2 (0 + q + (r.length - (q + 1))) ([] ++ intCells (r.take q) ++ intCells (r.drop (q + 1)))) (g2 : World.grownBy w1 w2 v1.ownBlock)
    (hql : q < r.length) :
    (w2.alloc (Obj.cells #[v2] 43)).ownsRow w0.heap.size 43 1 vOut rs.length vs ∧ w0.heap.size ≤ (w2.alloc (Obj.cells #[v2] 43)).heap.size ∧
    ∀ (w4 : World) (v' : Value), (w4.ownsRow w0.heap.size 43 1 v' (rs.length + 1) (vs ++ [v2])) → World.grownBy (w2.alloc (Obj.cells #[v2] 43)) w4 vOut.ownBlock →
      SSOwn2 w4 w0.heap.size b2 v' (rs ++ [r.eraseIdx q]) ∧ v'.ownBlock ≠ some gL ∧ SSOwnV w4 lo vL vsL L ∧ Below w0.heap.size w0 w4 ∧ b2 ≤ w4.heap.size ∧ w4.cell? ⟨gL, 0, none⟩ = some (.slice (some ⟨x, o, none⟩) n c) := by
  have e1 : (wr.drew.alloc (Obj.cells #[] 3)).heap.size = wr.heap.size + 1 := by simp
  have bA : Below wr.heap.size wr (wr.drew.alloc (Obj.cells #[] 3)) := (Below.refl _ _).drew.alloc (Nat.le_refl _) _
  have bB : Below wr.heap.size wr w1 := bA.trans ((grown_below g1 (B := wr.heap.size) (by omega) (fun k e => by injection e with e; omega)))
  have bC : Below wr.heap.size wr w2 := bB.trans (grown_below g2 bB.size (fun k e => (o1.lt k e).1))
  refine push_step hb hb2 ho1 ho2 hne hL hvL hcL hx bC ?_
  rw [erase_cells] at o2
  have hl : 0 + q + (r.length - (q + 1)) = (r.eraseIdx q).length := by rw [List.length_eraseIdx_of_lt hql]; omega
  rw [hl] at o2
  exact o2
set_option maxRecDepth 100000 in
set_option maxHeartbeats 4000000 in
theorem specRed_yes (M q : Nat) (A : Option Addr) (c : Nat) (es : List (Int × Int)) (w : World) (hB : graphB M es = true) (hq : q < M) (hE : EdgeS w w.heap.size A es) :
    Calls Try.prog 12 #[.agg #[.int .i64 (M : Int), .slice A es.length c], .int .i64 (q : Int)] w (GivesRows w (redM q (lapM M es))) := by
  obtain ⟨i0, hi, hz0, hz1, hz2⟩ := info_parts intInfo
  obtain ⟨i1, hj, hy0, hy1, hy2⟩ := info_parts rowsInfo
  obtain ⟨hN1, hN6, hn12⟩ := edgesB_lims (graphB_all hB).1
  have HE := Lib.hid hE
  have hin : inB (q : Int) 0 ((M : Int) - 1) = true := inB_t (by omega)
  have HG := fun w h => Lib.hid (specGraphOk (M : Int) A c es w (by omega) h)
  rw [hB] at HG
  have HL := fun w h => Lib.hid (specLap_own M A c es w hB h)
  have HLR := Lib.hid (fun a h => lapM_at (M := M) es (a := a) h)
  have HRL := Lib.hid (fun a => lapR_len M es a)
  have hLL := lapM_len M es
  obtain ⟨L, hL⟩ : ∃ L, L = lapM M es := ⟨_, rfl⟩
  rw [← hL] at HL HLR hLL ⊢
  have HLL := Lib.hid hLL
  have hrm := redM_len (q := q) (L := L)
  have hrm6 : (redM q L).length ≤ 6 := by omega
  clear hE hB hL hLL hrm
  have hb0 : Below w.heap.size w (w.alloc (Obj.cells #[.int .i64 (M : Int), .slice A es.length c] 30)) := (Below.refl _ _).alloc (Nat.le_refl _) _
  go_enter Try.func12, Try.ntmps12
  go_wp2_with fail
  refine (HG _ (HE.out.up_ hb0)).out.mono ?_
  rintro e w1 ⟨rfl, hb1⟩
  have hbb : Below w.heap.size w w1 := hb0.trans (hb1.mono hb0.size)
  have hx1 := (Blk.new w 30 #[.int .i64 (M : Int), .slice A es.length c]).below hb1 (by simp)
  have hlx := hx1.lt
  have k0 : w1.cell? ⟨w.heap.size, 0, none⟩ = some (.int .i64 (M : Int)) := by rw [hx1.cell]; rfl
  have k1 : w1.cell? ⟨w.heap.size, 1, none⟩ = some (.slice A es.length c) := by rw [hx1.cell]; rfl
  clear hb0 hb1 hx1
  go_wp2_with fail
  refine (l01In_any _ _ _ _).mono ?_
  rintro e w2 ⟨rfl, rfl⟩
  have hb2 : Below w.heap.size w (w1.alloc (Obj.cells #[] 43)) := hbb.alloc hbb.size _
  go_wp2_with fail
  refine (HL _ (HE.out.up_ hb2)).out.mono ?_
  rintro e w2 ⟨vL, rfl, hsL, hb3⟩
  obtain ⟨r0, hr0⟩ : ∃ r, L[0]? = some r := ⟨_, HLR.out 0 (by omega)⟩
  have hr0l : r0.length = M := by have h := HLR.out 0 (by omega); rw [hr0] at h; injection h with h; rw [h]; exact HRL.out 0
  obtain ⟨gL, capL, x0, cx0, rfl, hgL1, hgL2, hcL, h91, h92, hx0, h93⟩ := hsL.at_ hr0 (by omega)
  clear h91 h92 h93
  rw [HLL.out]
  obtain ⟨vsL, hsV⟩ := hsL
  have HSL : Hid (SSOwnV w2 _ _ vsL L) := Lib.hid hsV
  have HCL := Lib.hid hcL
  have HB3 := Lib.hid (hb2.trans (hb3.mono hb2.size))
  have hs2 : w.heap.size + 1 ≤ (w1.alloc (Obj.cells #[] 43)).heap.size := by simp; omega
  have hs3 := hb3.size
  have HG0 : Hid (Blk w2 w1.heap.size 43 #[]) := Lib.hid ((Blk.new w1 _ _).below hb3 (by simp))
  obtain ⟨lo, hlo⟩ : ∃ lo, lo = (w1.alloc (Obj.cells #[] 43)).heap.size := ⟨_, rfl⟩
  have hw1 : w1.heap.size < lo := by rw [hlo]; simp
  rw [← hlo] at HSL hs2 hs3 hgL1
  have hrow : w2.ownsRow w.heap.size 43 1 (.slice (some ⟨w1.heap.size, 0, none⟩) 0 0) 0 [] := ⟨rfl, .inr ⟨w1.heap.size, 0, #[], rfl, by have := hbb.size; omega, HG0.out, Nat.le_refl _, Nat.zero_le _, rfl, rfl⟩⟩
  have HROW := Lib.hid hrow
  clear hr0 hr0l hsV hcL hb2 hb3 hbb hlo k0 k1 hrow HG0
  go_wp2_with fail
  go_loopw [5, 23] (fun v i wr => ∃ a : Nat, a ≤ M ∧ i = .int .i64 a ∧ SSOwn2 wr w.heap.size w2.heap.size v (redM q (L.take a)) ∧ v.ownBlock ≠ some gL ∧ SSOwnV wr lo (.slice (some ⟨gL, 0, none⟩) L.length capL) vsL L ∧ wr.cell? ⟨gL, 0, none⟩ = some (.slice (some ⟨x0, 0, none⟩) r0.length cx0) ∧ Below w.heap.size w wr ∧ w2.heap.size ≤ wr.heap.size) (fun _ i _ => M - (intOf i).toNat)
  case atStart =>
    refine ⟨0, Nat.zero_le _, rfl, ⟨[], by simpa [redM] using HROW.out, fun i r h => by simp [redM] at h⟩, ?_, HSL.out, HCL.out, HB3.out, Nat.le_refl _⟩
    simp only [Value.ownBlock, ne_eq, Option.some.injEq]
    omega
  case round =>
    obtain ⟨a, ha, rfl, hso, hne, hsl, hcl, hb, hsz⟩ := hrel
    have HSO := Lib.hid hso
    have HSLr := Lib.hid hsl
    have HCLr := Lib.hid hcl
    have HNE := Lib.hid hne
    have HB := Lib.hid hb
    clear hso hsl hcl hne hb
    by_cases hlt : a < M
    · obtain ⟨r, hr⟩ : ∃ r, L[a]? = some r := ⟨_, HLR.out a hlt⟩
      have hrl : r.length = M := by have h := HLR.out a hlt; rw [hr] at h; injection h with h; rw [h]; exact HRL.out a
      obtain ⟨gL', capL', b, cb, hv, h94, hgl, hcell, hcap, h95, hbl, hcells⟩ := HSLr.out.one.at_ hr (by omega)
      have ha0 : (0 : Int) ≤ (a : Int) := Int.natCast_nonneg _
      have ha1 : (a : Int) < (M : Int) := by omega
      injection hv with hv1 _ hv3
      injection hv1 with hv1
      injection hv1 with hv1
      subst hv1
      rw [hrl] at hcell hcap
      have HRL2 := Lib.hid hrl
      have HR := Lib.hid hr
      have HCS := Lib.hid hcells
      clear hv3 hrl hr hcells h94 h95
      by_cases haq : a = q
      · have HS := Lib.hid (redM_skip HR.out haq)
        have hne1 : ((a : Int) != (q : Int)) = false := by simp [haq]
        clear haq
        go_wp2
        exact ⟨⟨a + 1, by omega, by go_num, by rw [HS.out]; exact HSO.out, HNE.out, HSLr.out, HCLr.out, HB.out, hsz⟩, by simp [intOf]; omega⟩
      · have HS := Lib.hid (redM_push HR.out haq)
        have hne1 : ((a : Int) != (q : Int)) = true := by simp; omega
        clear haq
        go_wp2
        have hcl : (redM q (L.take a)).length ≤ 6 := by have := redM_len (q := q) (L := L.take a); have h2 : (L.take a).length ≤ M := by rw [List.length_take]; omega
                                                        omega
        obtain ⟨rs, hrs⟩ : ∃ rs, rs = redM q (L.take a) := ⟨_, rfl⟩
        rw [← hrs] at HS hcl HSO
        obtain ⟨vs, hvs1, hvs2⟩ := HSO.out
        have hrl : r.length = M := HRL2.out
        have hO1 := own_emptyD wr.drew wr.heap.size (Nat.le_refl _) 3
        have hbA : Below wr.heap.size wr (wr.drew.alloc (Obj.cells #[] 3)) := (Below.refl _ _).drew.alloc (Nat.le_refl _) _
        have hn1 : ∀ (i : Nat) (u : Value), (intCells (r.take q))[i]? = some u → (wr.drew.alloc (Obj.cells #[] 3)).cell? ((⟨b, 0, none⟩ : Addr).add i) = some u := fun i u hu => by
          simp only [intCells, List.getElem?_map, Option.map_eq_some_iff] at hu
          obtain ⟨z, hz, rfl⟩ := hu
          have hij : i < q := by have := (List.getElem?_eq_some_iff.1 hz).1; simp at this; omega
          rw [List.getElem?_take_of_lt hij] at hz
          rw [Addr.add_lit, Nat.zero_add]
          exact (hbA.cell (p := ⟨b, i, none⟩) (by simp only; omega)).trans (HCS.out i z hz)
        have g1 : (intCells (r.take q)).length = q * 1 := by simp [intCells]; omega
        have g2 : ∀ u ∈ intCells (r.take q), u.oneCell' = true := fun u hu => by
          simp only [intCells, List.mem_map] at hu
          obtain ⟨z, _, rfl⟩ := hu
          rfl
        have g3 : 0 + q ≤ maxLen := by unfold maxLen; omega
        have g4 : (0 + q) * 8 ≤ 140737488355328 := by omega
        have g5 : wr.heap.size ≤ (wr.drew.alloc (Obj.cells #[] 3)).heap.size := by simp
        have k1 : (intCells (r.drop (q + 1))).length = (M - (q + 1)) * 1 := by simp [intCells, hrl]
        have k2 : ∀ u ∈ intCells (r.drop (q + 1)), u.oneCell' = true := fun u hu => by
          simp only [intCells, List.mem_map] at hu
          obtain ⟨z, _, rfl⟩ := hu
          rfl
        have k3 : 0 + q + (M - (q + 1)) ≤ maxLen := by unfold maxLen; omega
        have k4 : (0 + q + (M - (q + 1))) * 8 ≤ 140737488355328 := by omega
        have n3 : rs.length + 1 ≤ maxLen := by unfold maxLen; omega
        have n4 : (rs.length + 1) * 24 ≤ 140737488355328 := by omega
        have GS1 : Hid (∀ w1, World.grownBy (wr.drew.alloc (Obj.cells #[] 3)) w1 (some wr.heap.size) → wr.heap.size ≤ w1.heap.size) := Lib.hid (fun w1 h => by have := h.size; simp at this; omega)
        have GC1 : Hid (∀ w1, World.grownBy (wr.drew.alloc (Obj.cells #[] 3)) w1 (some wr.heap.size) → ∀ (i : Nat) (u : Value), (intCells (r.drop (q + 1)))[i]? = some u → w1.cell? ((⟨b, q + 1, none⟩ : Addr).add i) = some u) := Lib.hid (fun w1 h i u hu => by
          simp only [intCells, List.getElem?_map, Option.map_eq_some_iff] at hu
          obtain ⟨z, hz, rfl⟩ := hu
          rw [List.getElem?_drop] at hz
          rw [Addr.add_lit]
          rw [h.cell_far ⟨b, q + 1 + i, none⟩ (by simp; omega) (by simp only [ne_eq, Option.some.injEq]; omega)]
          exact (hbA.cell (p := ⟨b, q + 1 + i, none⟩) (by simp only; omega)).trans (HCS.out _ z hz))
        have STEP : Hid (∀ (v1 : Value) (w1 : World) (v2 : Value) (w2 : World), w1.ownsRow wr.heap.size 3 1 v1 (0 + q) ([] ++ intCells (r.take q)) → World.grownBy (wr.drew.alloc (Obj.cells #[] 3)) w1 (some wr.heap.size) →
            w2.ownsRow wr.heap.size 3 1 v2 (0 + q + (M - (q + 1))) ([] ++ intCells (r.take q) ++ intCells (r.drop (q + 1))) → World.grownBy w1 w2 v1.ownBlock → _) := Lib.hid (fun v1 w1' v2 w2' o1 g1 o2 g2 => red_step HB.out hsz hvs1 hvs2 HNE.out HSLr.out (gL := gL) rfl HCLr.out hx0 o1 g1 (by rw [hrl]; exact o2) g2 (by omega))
        have hqc1 : (q : Int) ≤ (cb : Int) := by omega
        have hqc2 : (q : Int) + 1 ≤ (M : Int) := by omega
        have hqc3 : (M : Int) ≤ (cb : Int) := by omega
        have hqc4 : (0 : Int) ≤ (q : Int) := by omega
        have hqc5 : (0 : Int) ≤ (q : Int) + 1 := by omega
        have hqc6 : q ≤ cb := by omega
        have hqc7 : q + 1 ≤ M := by omega
        have HO1 := Lib.hid hO1
        have HN1 := Lib.hid hn1
        have G1 := Lib.hid g1
        have G2 := Lib.hid g2
        have K1 := Lib.hid k1
        have K2 := Lib.hid k2
        have z1 : IntKind.i64.wrap ((q : Int) + 1) = (q : Int) + 1 := by rw [IntKind.wrap_i64]; omega
        have z2 : ((q : Int) + 1).toNat = q + 1 := by omega
        by_cases hcq : cb = q + 1
        · have hdr : r.drop (q + 1) = [] := List.drop_eq_nil_iff.2 (by omega)
          have GE : Hid (∀ (w : World) (ad : Addr) (i : Nat) (u : Value), (intCells (r.drop (q + 1)))[i]? = some u → w.cell? (ad.add i) = some u) := Lib.hid (fun w ad i u hu => by rw [hdr] at hu; simp [intCells] at hu)
          have HZ := Lib.hid (show M - (q + 1) = 0 by omega)
          have K1E := Lib.hid (show (intCells (r.drop (q + 1))).length = 0 * 1 by rw [K1.out, HZ.out])
          have k3E : 0 + q + 0 ≤ maxLen := by have := HZ.out; omega
          have k4E : (0 + q + 0) * 8 ≤ 140737488355328 := by have := HZ.out; omega
          have hq7 : (q : Int) ≤ (q : Int) + 1 := by omega
          have hq8 : (M : Int) ≤ (q : Int) + 1 := by omega
          clear hdr hO1 hn1 g1 g2 k1 k2 hrl hbA hvs1 hvs2 hrs
          subst hcq
          go_region_law (first
            | (refine step_append_ownD rfl (.tmp 32) (.tmp 35) 43 rfl wr.heap.size 3 i0 (.int .i64 0) 1 8 Try.underlying43 hi hz0 hz1 hz2 rfl (by decide) _ _ _ rfl HO1.out ⟨b, 0, none⟩ q _ (intCells (r.take q)) rfl G1.out HN1.out G2.out g3 g4 g5 ?_
               intro v1 w3 hown1 hgrow1
               have hg1 : World.grownBy (wr.drew.alloc (Obj.cells #[] 3)) w3 (some wr.heap.size) := hgrow1
               have HG1 := Lib.hid hg1
               have hs1 : wr.heap.size ≤ w3.heap.size := GS1.out w3 hg1
               clear hgrow1 hg1)
            | (refine step_append_ownD rfl (.tmp 36) (.tmp 40) 43 rfl wr.heap.size 3 i0 (.int .i64 0) 1 8 Try.underlying43 hi hz0 hz1 hz2 rfl (by decide) _ _ _ rfl hown1 _ _ _ (intCells (r.drop (q + 1))) rfl K1E.out (GE.out w3 _) K2.out k3E k4E hs1 ?_
               intro v2 w4 hown2 hgrow2
               obtain ⟨hq1, hq2, hq3⟩ := STEP.out v1 w3 v2 w4 hown1 HG1.out (by rw [HZ.out]; exact hown2) hgrow2
               obtain ⟨A2, m2, c2, rfl⟩ := own_sl hown2
               have HQ1 := Lib.hid hq1
               have HQ3 := Lib.hid hq3
               clear hq1 hq3 hown2 hgrow2 hown1 HG1 hs1)
            | (refine step_append_ownD rfl (.tmp 31) (.tmp 42) 26 rfl w.heap.size 43 i1 (.slice none 0 0) 1 24 Try.underlying26 hj hy0 hy1 hy2 rfl (by decide) _ _ _ rfl HQ1.out ⟨w4.heap.size, 0, none⟩ 1 1 [_] rfl rfl (one_cell _ _ rfl _ _) (fun u hu => by rw [List.mem_singleton] at hu; rw [hu]; rfl) n3 n4 hq2 ?_
               intro v3 w5 hown3 hgrow3
               have HF := Lib.hid (HQ3.out w5 v3 hown3 hgrow3)
               clear hown3 hgrow3 HQ3 HQ1))
          obtain ⟨f1, f2, f3, f4, f5, hclw⟩ := HF.out
          rw [← HS.out] at f1
          have F1 := Lib.hid f1
          have F2 := Lib.hid f2
          have F3 := Lib.hid f3
          have F4 := Lib.hid f4
          have F6 := Lib.hid hclw
          clear f1 f2 f3 f4 hclw HF
          go_wp2
          exact ⟨⟨a + 1, by omega, by go_num, F1.out, F2.out, F3.out, F6.out, F4.out, f5⟩, by simp [intOf]; omega⟩

        · clear hO1 hn1 g1 g2 k1 k2 hrl hbA hvs1 hvs2 hrs
          go_region_law (first
            | (refine step_append_ownD rfl (.tmp 32) (.tmp 35) 43 rfl wr.heap.size 3 i0 (.int .i64 0) 1 8 Try.underlying43 hi hz0 hz1 hz2 rfl (by decide) _ _ _ rfl HO1.out ⟨b, 0, none⟩ q _ (intCells (r.take q)) rfl G1.out HN1.out G2.out g3 g4 g5 ?_
               intro v1 w3 hown1 hgrow1
               have hg1 : World.grownBy (wr.drew.alloc (Obj.cells #[] 3)) w3 (some wr.heap.size) := hgrow1
               have HG1 := Lib.hid hg1
               have hs1 : wr.heap.size ≤ w3.heap.size := GS1.out w3 hg1
               clear hgrow1 hg1)
            | (refine step_append_ownD rfl (.tmp 36) (.tmp 40) 43 rfl wr.heap.size 3 i0 (.int .i64 0) 1 8 Try.underlying43 hi hz0 hz1 hz2 rfl (by decide) _ _ _ rfl hown1 _ _ _ (intCells (r.drop (q + 1))) rfl K1.out (GC1.out w3 HG1.out) K2.out k3 k4 hs1 ?_
               intro v2 w4 hown2 hgrow2
               obtain ⟨hq1, hq2, hq3⟩ := STEP.out v1 w3 v2 w4 hown1 HG1.out hown2 hgrow2
               obtain ⟨A2, m2, c2, rfl⟩ := own_sl hown2
               have HQ1 := Lib.hid hq1
               have HQ3 := Lib.hid hq3
               clear hq1 hq3 hown2 hgrow2 hown1 HG1 hs1)
            | (refine step_append_ownD rfl (.tmp 31) (.tmp 42) 26 rfl w.heap.size 43 i1 (.slice none 0 0) 1 24 Try.underlying26 hj hy0 hy1 hy2 rfl (by decide) _ _ _ rfl HQ1.out ⟨w4.heap.size, 0, none⟩ 1 1 [_] rfl rfl (one_cell _ _ rfl _ _) (fun u hu => by rw [List.mem_singleton] at hu; rw [hu]; rfl) n3 n4 hq2 ?_
               intro v3 w5 hown3 hgrow3
               have HF := Lib.hid (HQ3.out w5 v3 hown3 hgrow3)
               clear hown3 hgrow3 HQ3 HQ1))
          obtain ⟨f1, f2, f3, f4, f5, hclw⟩ := HF.out
          rw [← HS.out] at f1
          have F1 := Lib.hid f1
          have F2 := Lib.hid f2
          have F3 := Lib.hid f3
          have F4 := Lib.hid f4
          have F6 := Lib.hid hclw
          clear f1 f2 f3 f4 hclw HF
          go_wp2
          exact ⟨⟨a + 1, by omega, by go_num, F1.out, F2.out, F3.out, F6.out, F4.out, f5⟩, by simp [intOf]; omega⟩

    · have hso := HSO.out.one (by omega)
      obtain ⟨Ar, cr, hu, hr⟩ := hso.rows
      rw [List.take_of_length_le (by rw [HLL.out]; omega)] at hu hr
      subst hu
      have HRW := Lib.hid hr
      clear hr hso
      go_wp2
      go_ret
      exact ⟨Ar, cr, rfl, HRW.out, HB.out⟩
/-- the reduced Laplacian of a valid graph at a vertex, else nothing -/
noncomputable def redB (N : Int) (es : List (Int × Int)) (q : Int) : List (List Int) := if graphB N es = true ∧ vB q N = true then redM q.toNat (lapM N.toNat es) else []
theorem redB_t {N : Int} {es : List (Int × Int)} {v : Int} (h : graphB N es = true) (h2 : vB v N = true) : redB N es v = redM v.toNat (lapM N.toNat es) := by rw [redB, if_pos ⟨h, h2⟩]
theorem redB_f {N : Int} {es : List (Int × Int)} {v : Int} (h : graphB N es = false ∨ vB v N = false) : redB N es v = [] := by
  rw [redB, if_neg]
  rintro ⟨h1, h2⟩
  rcases h with h | h
  · rw [h] at h1; cases h1
  · rw [h] at h2; cases h2
set_option maxRecDepth 100000 in
set_option maxHeartbeats 2000000 in
theorem specRed_no (N : Int) (A : Option Addr) (c : Nat) (es : List (Int × Int)) (v : Int) (w : World) (hn : es.length ≤ 1048576) (h : graphB N es = false ∨ (graphB N es = true ∧ vB v N = false)) (hE : EdgeS w w.heap.size A es) :
    Calls Try.prog 12 #[.agg #[.int .i64 N, .slice A es.length c], .int .i64 v] w (GivesRows w []) := by
  have HE := Lib.hid hE
  clear hE
  have hb0 : Below w.heap.size w (w.alloc (Obj.cells #[.int .i64 N, .slice A es.length c] 30)) := (Below.refl _ _).alloc (Nat.le_refl _) _
  rcases h with hB | ⟨hB, hv⟩
  · go_enter Try.func12, Try.ntmps12
    go_wp2_with fail
    refine (specGraphOk _ _ _ _ _ (by omega) (HE.out.up_ hb0)).mono ?_
    rintro e w1 ⟨rfl, hb1⟩
    have hbb : Below w.heap.size w w1 := hb0.trans (hb1.mono hb0.size)
    clear hb0 hb1
    go_wp2
    go_ret
    exact ⟨none, 0, rfl, fun h => absurd h (by simp), hbb⟩
  · obtain ⟨hN1, hN6, hn12⟩ := edgesB_lims (graphB_all hB).1
    have hin : inB v 0 (N - 1) = false := by rw [inB_vB]; exact hv
    go_enter Try.func12, Try.ntmps12
    go_wp2_with fail
    refine (specGraphOk _ _ _ _ _ (by omega) (HE.out.up_ hb0)).mono ?_
    rintro e w1 ⟨rfl, hb1⟩
    have hbb : Below w.heap.size w w1 := hb0.trans (hb1.mono hb0.size)
    have hx1 := (Blk.new w 30 #[.int .i64 N, .slice A es.length c]).below hb1 (by simp)
    have c0 : w1.cell? ⟨w.heap.size, 0, none⟩ = some (.int .i64 N) := by rw [hx1.cell]; rfl
    have c1 : w1.cell? ⟨w.heap.size, 1, none⟩ = some (.slice A es.length c) := by rw [hx1.cell]; rfl
    clear hb0 hb1 hx1
    go_wp2_with fail
    refine (l01In_any _ _ _ _).mono ?_
    rintro e w2 ⟨rfl, rfl⟩
    go_wp2
    go_ret
    exact ⟨none, 0, rfl, fun h => absurd h (by simp), hbb⟩
theorem specRed (N : Int) (A : Option Addr) (c : Nat) (es : List (Int × Int)) (q : Int) (w : World) (hn : es.length ≤ 1048576) (hE : EdgeS w w.heap.size A es) :
    Calls Try.prog 12 #[.agg #[.int .i64 N, .slice A es.length c], .int .i64 q] w (GivesRows w (redB N es q)) := by
  cases h : graphB N es with
  | false => rw [redB_f (.inl h)]; exact specRed_no N A c es q w hn (.inl h) hE
  | true =>
    cases h2 : vB q N with
    | false => rw [redB_f (.inr h2)]; exact specRed_no N A c es q w hn (.inr ⟨h, h2⟩) hE
    | true =>
      rw [redB_t h h2]
      have h1 := edgesB_lims (graphB_all h).1
      have h3 := vB_iff h2
      obtain ⟨M, rfl⟩ : ∃ M : Nat, N = (M : Int) := ⟨N.toNat, by omega⟩
      obtain ⟨k, rfl⟩ : ∃ k : Nat, q = (k : Int) := ⟨q.toNat, by omega⟩
      rw [Int.toNat_natCast, Int.toNat_natCast]
      exact specRed_yes M k A c es w h (by omega) hE
theorem redB_len {N : Int} {es : List (Int × Int)} {q : Int} : (redB N es q).length ≤ 6 ∧ ∀ r ∈ redB N es q, r.length ≤ 6 := by
  unfold redB
  split
  · rename_i h
    have h1 := edgesB_lims (graphB_all h.1).1
    have h2 := redM_len (q := q.toNat) (L := lapM N.toNat es)
    rw [lapM_len] at h2
    refine ⟨by omega, fun r hr => ?_⟩
    simp only [redM, List.mem_map] at hr
    obtain ⟨r0, hr0, rfl⟩ := hr
    have h3 := List.mem_of_mem_eraseIdx hr0
    simp only [lapM, List.mem_map, List.mem_range] at h3
    obtain ⟨a, _, rfl⟩ := h3
    rw [List.length_eraseIdx]
    have := lapR_len N.toNat es a
    split <;> omega
  · exact ⟨by simp, fun r hr => by simp at hr⟩
end Go.Proofs.Ytbmihbbpdmpmpaa
