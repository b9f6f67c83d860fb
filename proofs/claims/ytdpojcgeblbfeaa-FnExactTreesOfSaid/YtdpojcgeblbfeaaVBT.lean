/- One text out of several: RedS RedI Trees SetW Neg AddD. -/
import Derived.Test.YtdpojcgeblbfeaaVBE
import Derived.Test.YtdpojcgeblbfeaaVBD
import Derived.Test.YtdpojcgeblbfeaaVSh
import Derived.Test.YtdpojcgeblbfeaaVBA
set_option linter.all false
/- The specification's ReducedLaplacian. -/
namespace Go.Proofs.Ytdpojcgeblbfeaa
open Go.RowKit

def redM (q : Nat) (L : List (List Int)) : List (List Int) := (L.eraseIdx q).map fun r => r.eraseIdx q
theorem redM_skip {q a : Nat} {L : List (List Int)} {r : List Int} (h : L[a]? = some r) (e : a = q) : redM q (L.take (a + 1)) = redM q (L.take a) := by
  subst e
  have hl : (L.take a).length = a := by have := (List.getElem?_eq_some_iff.1 h).1; rw [List.length_take]; omega
  rw [redM, redM, List.take_add_one, h, Option.toList_some, List.eraseIdx_append_of_length_le (by omega), hl, Nat.sub_self, List.eraseIdx_cons_zero, List.append_nil, List.eraseIdx_of_length_le (by omega)]
theorem redM_push {q a : Nat} {L : List (List Int)} {r : List Int} (h : L[a]? = some r) (e : a ≠ q) : redM q (L.take (a + 1)) = redM q (L.take a) ++ [r.eraseIdx q] := by
  have hl : (L.take a).length = a := by have := (List.getElem?_eq_some_iff.1 h).1; rw [List.length_take]; omega
  rw [redM, redM, List.take_add_one, h, Option.toList_some]
  rcases Nat.lt_or_ge q a with l | l
  · rw [List.eraseIdx_append_of_lt_length (by omega), List.map_append]
    rfl
  · rw [List.eraseIdx_of_length_le (by rw [List.length_append, hl]; simp; omega), List.map_append, List.eraseIdx_of_length_le (by omega)]
    rfl
theorem redM_len {q : Nat} {L : List (List Int)} : (redM q L).length ≤ L.length := by
  rw [redM, List.length_map, List.length_eraseIdx]
  split <;> omega
theorem own_types2 {w : World} {base base2 e1 e2 s1 s2 n1 n2 : Nat} {v1 v2 : Value} {x1 x2 : List Value} (h1 : w.ownsRow base e1 s1 v1 n1 x1) (h2 : w.ownsRow base2 e2 s2 v2 n2 x2) (hne : e1 ≠ e2) : v1.ownBlock = none ∨ v1.ownBlock ≠ v2.ownBlock :=
  own_types (ownsRow_mono h1 (Nat.zero_le _)) (ownsRow_mono h2 (Nat.zero_le _)) hne
def SSOwn2 (w : World) (b1 b2 : Nat) (v : Value) (rs : List (List Int)) : Prop :=
  ∃ vs : List Value, w.ownsRow b1 28 1 v rs.length vs ∧ ∀ (i : Nat) (r : List Int), rs[i]? = some r → ∃ u, vs[i]? = some u ∧ QOwn w b2 u r
theorem SSOwn2.one {w : World} {b1 b2 : Nat} {v : Value} {rs : List (List Int)} (h : SSOwn2 w b1 b2 v rs) (hb : b1 ≤ b2) : SSOwn w b1 v rs := by
  obtain ⟨vs, h1, h2⟩ := h
  refine ⟨vs, h1, fun i r hr => ?_⟩
  obtain ⟨u, hu, hq⟩ := h2 i r hr
  exact ⟨u, hu, ownsRow_mono hq hb⟩
theorem SSOwn2.push {w w1 : World} {b1 b2 : Nat} {v v' u : Value} {rs : List (List Int)} {r : List Int} {vs : List Value} (h1 : w.ownsRow b1 28 1 v rs.length vs) (h2 : ∀ (i : Nat) (r : List Int), rs[i]? = some r → ∃ u, vs[i]? = some u ∧ QOwn w b2 u r)
    (hr : QOwn w b2 u r) (ho : w1.ownsRow b1 28 1 v' (rs.length + 1) (vs ++ [u])) (hg : w.grownBy w1 v.ownBlock) : SSOwn2 w1 b1 b2 v' (rs ++ [r]) := by
  have keep : ∀ {x : Value} {p : List Int}, QOwn w b2 x p → QOwn w1 b2 x p := fun hq => World.ownsRow.kept hq hg (own_types2 hq h1 (by decide))
  have hl : vs.length = rs.length := by have := h1.1; omega
  refine ⟨vs ++ [u], by simpa using ho, fun i p hp => ?_⟩
  rcases Nat.lt_or_ge i rs.length with l | l
  · rw [List.getElem?_append_left l] at hp
    obtain ⟨x, hx, hq⟩ := h2 i p hp
    exact ⟨x, by rw [List.getElem?_append_left (by omega)]; exact hx, keep hq⟩
  · rw [List.getElem?_append_right l] at hp
    have hi : i - rs.length = 0 := by
      have := (List.getElem?_eq_some_iff.1 hp).1
      simp at this
      omega
    rw [hi] at hp
    simp only [List.getElem?_cons_zero, Option.some.injEq] at hp
    subst hp
    exact ⟨u, by rw [List.getElem?_append_right (by omega), show i - vs.length = 0 by omega]; rfl, keep hr⟩
theorem SSOwn2.apart {w : World} {b1 b2 gL x o n c : Nat} {v : Value} {rs : List (List Int)} (h : SSOwn2 w b1 b2 v rs) (hn : 0 < rs.length) (hc : w.cell? ⟨gL, 0, none⟩ = some (.slice (some ⟨x, o, none⟩) n c)) (hx : x < b2) : v.ownBlock ≠ some gL := by
  obtain ⟨vs, h1, h2⟩ := h
  obtain ⟨u, hu, hq⟩ := h2 0 _ (List.getElem?_eq_getElem hn)
  intro e
  have := h1.cells e 0 u hu
  rw [Addr.add_lit, Nat.add_zero, hc] at this
  injection this with this
  subst this
  have := (World.ownsRow.lt hq x rfl).1
  omega
theorem SSOwn.at_ {w : World} {base : Nat} {v : Value} {rs : List (List Int)} {a : Nat} {r : List Int} (h : SSOwn w base v rs) (hr : rs[a]? = some r) (hz : 0 < r.length) :
    ∃ (g cap b c : Nat), v = .slice (some ⟨g, 0, none⟩) rs.length cap ∧ base ≤ g ∧ g < w.heap.size ∧ w.cell? ⟨g, a, none⟩ = some (.slice (some ⟨b, 0, none⟩) r.length c) ∧ r.length ≤ c ∧ base ≤ b ∧ b < w.heap.size ∧ ∀ (i : Nat) (x : Int), r[i]? = some x → w.cell? ⟨b, i, none⟩ = some (.int .i64 x) := by
  obtain ⟨vs, h1, h2⟩ := h
  obtain ⟨u, hu, hq⟩ := h2 a r hr
  have hal : a < rs.length := (List.getElem?_eq_some_iff.1 hr).1
  rcases h1.2 with ⟨_, e0⟩ | ⟨g, cap, cur, e, hb, hg, hnc, _, hcs, htk⟩
  · omega
  · have hob : v.ownBlock = some g := by rw [e]; rfl
    have hc := h1.cells hob a u hu
    rw [Addr.add_lit, Nat.zero_add] at hc
    rcases hq.2 with ⟨_, e0⟩ | ⟨b, c, cur2, e2, hb2, hg2, hnc2, _, _, _⟩
    · omega
    · refine ⟨g, cap, b, c, e, hb, (h1.lt g hob).2, by rw [hc, e2], hnc2, hb2, (World.ownsRow.lt hq b (by rw [e2]; rfl)).2, fun i x hx => ?_⟩
      have := World.ownsRow.cells hq (by rw [e2]; rfl) i (.int .i64 x) (by simp [intCells, hx])
      rwa [Addr.add_lit, Nat.zero_add] at this
theorem SSOwn2.keep {w w' : World} {b1 b2 : Nat} {v : Value} {rs : List (List Int)} (h : SSOwn2 w b1 b2 v rs) (hb : Below w.heap.size w w') : SSOwn2 w' b1 b2 v rs := by
  obtain ⟨vs, h1, h2⟩ := h
  refine ⟨vs, h1.kept (row := none) ⟨hb.os, hb.tape, hb.output, hb.size, fun i hi _ => hb.block i hi⟩ (Classical.em _), fun i r hr => ?_⟩
  obtain ⟨u, hu, hq⟩ := h2 i r hr
  exact ⟨u, hu, hq.below hb⟩
theorem grown_below {W w1 : World} {B : Nat} {row : Option Nat} (hg : W.grownBy w1 row) (hB : B ≤ W.heap.size) (hr : ∀ k, row = some k → B ≤ k) : Below B W w1 :=
  ⟨hg.os, hg.tape, hg.output, hg.size, fun i hi => hg.block i (by omega) (fun e => by have := hr i e.symm; omega)⟩
theorem erase_cells (r : List Int) (q : Nat) : [] ++ intCells (r.take q) ++ intCells (r.drop (q + 1)) = intCells (r.eraseIdx q) := by
  rw [List.nil_append, List.eraseIdx_eq_take_drop_succ]
  simp [intCells]
theorem own_sl {w : World} {base n s : Nat} {e : TypeId} {v : Value} {xs : List Value} (h : w.ownsRow base e s v n xs) : ∃ (A : Option Addr) (m c : Nat), v = .slice A m c := by
  rcases h.2 with ⟨h1, _⟩ | ⟨g, cap, cur, h1, _⟩
  · exact ⟨none, 0, 0, h1⟩
  · exact ⟨_, n, cap, h1⟩
def SSOwnV (w : World) (base : Nat) (v : Value) (vs : List Value) (rs : List (List Int)) : Prop :=
  w.ownsRow base 28 1 v rs.length vs ∧ ∀ (i : Nat) (r : List Int), rs[i]? = some r → ∃ u, vs[i]? = some u ∧ QOwn w base u r
theorem SSOwnV.one {w : World} {base : Nat} {v : Value} {vs : List Value} {rs : List (List Int)} (h : SSOwnV w base v vs rs) : SSOwn w base v rs := ⟨vs, h.1, h.2⟩
theorem SSOwnV.keep {w w' : World} {base : Nat} {v : Value} {vs : List Value} {rs : List (List Int)} (h : SSOwnV w base v vs rs) (hb : Below w.heap.size w w') : SSOwnV w' base v vs rs := by
  obtain ⟨h1, h2⟩ := h
  refine ⟨h1.kept (row := none) ⟨hb.os, hb.tape, hb.output, hb.size, fun i hi _ => hb.block i hi⟩ (Classical.em _), fun i r hr => ?_⟩
  obtain ⟨u, hu, hq⟩ := h2 i r hr
  exact ⟨u, hu, hq.below hb⟩
theorem SSOwnV.far {w w1 : World} {base b1 n : Nat} {v out : Value} {us : List Value} {rs : List (List Int)} {xs : List Value} (h : SSOwnV w base v us rs) (ho : w.ownsRow b1 28 1 out n xs) (hne : v.ownBlock ≠ out.ownBlock) (hg : w.grownBy w1 out.ownBlock) : SSOwnV w1 base v us rs := by
  obtain ⟨h1, h2⟩ := h
  refine ⟨h1.kept hg (.inr hne), fun i r hr => ?_⟩
  obtain ⟨u, hu, hq⟩ := h2 i r hr
  exact ⟨u, hu, World.ownsRow.kept hq hg (own_types2 hq ho (by decide))⟩
theorem push_step {wr w2 : World} {lo b2 : Nat} {vL vOut v2 : Value} {L rs : List (List Int)} {r : List Int} {w0 : World} {vs vsL : List Value} {gL x o n c : Nat}
    (hb : Below w0.heap.size w0 wr) (hb2 : b2 ≤ wr.heap.size)
    (ho1 : wr.ownsRow w0.heap.size 28 1 vOut rs.length vs) (ho2 : ∀ (i : Nat) (r : List Int), rs[i]? = some r → ∃ u, vs[i]? = some u ∧ QOwn wr b2 u r)
    (hne : vOut.ownBlock ≠ some gL) (hL : SSOwnV wr lo vL vsL L) (hvL : vL.ownBlock = some gL) (hcL : wr.cell? ⟨gL, 0, none⟩ = some (.slice (some ⟨x, o, none⟩) n c)) (hx : x < b2)
    (bC : Below wr.heap.size wr w2) (kq2 : QOwn w2 wr.heap.size v2 r) :
    (w2.alloc (Obj.cells #[v2] 28)).ownsRow w0.heap.size 28 1 vOut rs.length vs ∧ w0.heap.size ≤ (w2.alloc (Obj.cells #[v2] 28)).heap.size ∧
    ∀ (w4 : World) (v' : Value), (w4.ownsRow w0.heap.size 28 1 v' (rs.length + 1) (vs ++ [v2])) → World.grownBy (w2.alloc (Obj.cells #[v2] 28)) w4 vOut.ownBlock →
      SSOwn2 w4 w0.heap.size b2 v' (rs ++ [r]) ∧ v'.ownBlock ≠ some gL ∧ SSOwnV w4 lo vL vsL L ∧ Below w0.heap.size w0 w4 ∧ b2 ≤ w4.heap.size ∧ w4.cell? ⟨gL, 0, none⟩ = some (.slice (some ⟨x, o, none⟩) n c) := by
  have bD : Below wr.heap.size wr (w2.alloc (Obj.cells #[v2] 28)) := bC.alloc bC.size _
  have s3 := bD.size
  have sb := hb.size
  have k1 := ho1.kept (row := none) ⟨bD.os, bD.tape, bD.output, bD.size, fun i hi _ => bD.block i hi⟩ (Classical.em _)
  have kq : QOwn (w2.alloc (Obj.cells #[v2] 28)) b2 v2 r := ownsRow_mono (World.ownsRow.alloc kq2 _) hb2
  refine ⟨k1, by omega, fun w4 v' o4 g4 => ?_⟩
  have P := SSOwn2.push k1 (fun i r hr => by
    obtain ⟨u, hu, hq⟩ := ho2 i r hr
    exact ⟨u, hu, hq.below bD⟩) kq o4 g4
  have hgl : gL < wr.heap.size := by
    exact (hL.1.lt gL hvL).2
  have hc3 : (w2.alloc (Obj.cells #[v2] 28)).cell? ⟨gL, 0, none⟩ = some (.slice (some ⟨x, o, none⟩) n c) := (bD.cell (p := ⟨gL, 0, none⟩) hgl).trans hcL
  have hc4 : w4.cell? ⟨gL, 0, none⟩ = some (.slice (some ⟨x, o, none⟩) n c) := (World.cell?_of_block (a := ⟨gL, 0, none⟩) (g4.block gL (by omega) (fun e => hne e.symm))).trans hc3
  have hL3 := hL.keep bD
  refine ⟨P, P.apart (by simp) hc4 hx, hL3.far k1 (by rw [hvL]; exact fun e => hne e.symm) g4, (hb.trans (bD.mono sb)).grown g4 (by omega) (fun k e => (ho1.lt k e).1), ?_, hc4⟩
  have := g4.size
  omega
theorem red_step {wr w1 w2 : World} {lo b2 q : Nat} {vL vOut v1 v2 : Value} {L rs : List (List Int)} {r : List Int} {w0 : World} {vs vsL : List Value} {gL x o n c : Nat}
    (hb : Below w0.heap.size w0 wr) (hb2 : b2 ≤ wr.heap.size)
    (ho1 : wr.ownsRow w0.heap.size 28 1 vOut rs.length vs) (ho2 : ∀ (i : Nat) (r : List Int), rs[i]? = some r → ∃ u, vs[i]? = some u ∧ QOwn wr b2 u r)
    (hne : vOut.ownBlock ≠ some gL) (hL : SSOwnV wr lo vL vsL L) (hvL : vL.ownBlock = some gL) (hcL : wr.cell? ⟨gL, 0, none⟩ = some (.slice (some ⟨x, o, none⟩) n c)) (hx : x < b2)
    (o1 : w1.ownsRow wr.heap.size 3 1 v1 (0 + q) ([] ++ intCells (r.take q))) (g1 : World.grownBy (wr.drew.alloc (Obj.cells #[] 3)) w1 (some wr.heap.size))
    (o2 : w2.ownsRow wr.heap.size 3 1 v2 (0 + q + (r.length - (q + 1))) ([] ++ intCells (r.take q) ++ intCells (r.drop (q + 1)))) (g2 : World.grownBy w1 w2 v1.ownBlock)
    (hql : q < r.length) :
    (w2.alloc (Obj.cells #[v2] 28)).ownsRow w0.heap.size 28 1 vOut rs.length vs ∧ w0.heap.size ≤ (w2.alloc (Obj.cells #[v2] 28)).heap.size ∧
    ∀ (w4 : World) (v' : Value), (w4.ownsRow w0.heap.size 28 1 v' (rs.length + 1) (vs ++ [v2])) → World.grownBy (w2.alloc (Obj.cells #[v2] 28)) w4 vOut.ownBlock →
      SSOwn2 w4 w0.heap.size b2 v' (rs ++ [r.eraseIdx q]) ∧ v'.ownBlock ≠ some gL ∧ SSOwnV w4 lo vL vsL L ∧ Below w0.heap.size w0 w4 ∧ b2 ≤ w4.heap.size ∧ w4.cell? ⟨gL, 0, none⟩ = some (.slice (some ⟨x, o, none⟩) n c) := by
  have e1 : (wr.drew.alloc (Obj.cells #[] 3)).heap.size = wr.heap.size + 1 := by simp
  have bA : Below wr.heap.size wr (wr.drew.alloc (Obj.cells #[] 3)) := (Below.refl _ _).drew.alloc (Nat.le_refl _) _
  have bB : Below wr.heap.size wr w1 := bA.trans ((grown_below g1 (B := wr.heap.size) (by omega) (fun k e => by injection e with e; omega)))
  have bC : Below wr.heap.size wr w2 := bB.trans (grown_below g2 bB.size (fun k e => (o1.lt k e).1))
  refine push_step hb hb2 ho1 ho2 hne hL hvL hcL hx bC ?_
  rw [erase_cells] at o2
  have hl : 0 + q + (r.length - (q + 1)) = (r.eraseIdx q).length := by rw [List.length_eraseIdx_of_lt hql]; omega
  rw [hl] at o2
  exact o2
set_option maxRecDepth 100000 in
set_option maxHeartbeats 4000000 in
theorem specRed_yes (M q : Nat) (A : Option Addr) (c : Nat) (es : List (Int × Int)) (w : World) (hB : graphB M es = true) (hq : q < M) (hE : EdgeS w w.heap.size A es) :
    Calls Try.prog 130 #[.agg #[.int .i64 (M : Int), .slice A es.length c], .int .i64 (q : Int)] w (GivesRows w (redM q (lapM M es))) := by
  obtain ⟨i0, hi, hz0, hz1, hz2⟩ := info_parts intInfo
  obtain ⟨i1, hj, hy0, hy1, hy2⟩ := info_parts rowsInfo
  obtain ⟨hN1, hN6, hn12⟩ := edgesB_lims (graphB_all hB).1
  have HE := Lib.hid hE
  have hin : inB (q : Int) 0 ((M : Int) - 1) = true := inB_t (by omega)
  have HG := fun w h => Lib.hid (specGraphOk (M : Int) A c es w (by omega) h)
  rw [hB] at HG
  have HL := fun w h => Lib.hid (specLap_own M A c es w hB h)
  have HLR := Lib.hid (fun a h => lapM_at (M := M) es (a := a) h)
  have HRL := Lib.hid (fun a => lapR_len M es a)
  have hLL := lapM_len M es
  obtain ⟨L, hL⟩ : ∃ L, L = lapM M es := ⟨_, rfl⟩
  rw [← hL] at HL HLR hLL ⊢
  have HLL := Lib.hid hLL
  have hrm := redM_len (q := q) (L := L)
  have hrm6 : (redM q L).length ≤ 6 := by omega
  clear hE hB hL hLL hrm
  have hb0 : Below w.heap.size w (w.alloc (Obj.cells #[.int .i64 (M : Int), .slice A es.length c] 25)) := (Below.refl _ _).alloc (Nat.le_refl _) _
  go_enter Try.func130, Try.ntmps130
  go_wp2_with fail
  refine (HG _ (HE.out.up_ hb0)).out.mono ?_
  rintro e w1 ⟨rfl, hb1⟩
  have hbb : Below w.heap.size w w1 := hb0.trans (hb1.mono hb0.size)
  have hx1 := (Blk.new w 25 #[.int .i64 (M : Int), .slice A es.length c]).below hb1 (by simp)
  have hlx := hx1.lt
  have k0 : w1.cell? ⟨w.heap.size, 0, none⟩ = some (.int .i64 (M : Int)) := by rw [hx1.cell]; rfl
  have k1 : w1.cell? ⟨w.heap.size, 1, none⟩ = some (.slice A es.length c) := by rw [hx1.cell]; rfl
  clear hb0 hb1 hx1
  go_wp2_with fail
  refine (l01In_any _ _ _ _).mono ?_
  rintro e w2 ⟨rfl, rfl⟩
  have hb2 : Below w.heap.size w (w1.alloc (Obj.cells #[] 28)) := hbb.alloc hbb.size _
  go_wp2_with fail
  refine (HL _ (HE.out.up_ hb2)).out.mono ?_
  rintro e w2 ⟨vL, rfl, hsL, hb3⟩
  obtain ⟨r0, hr0⟩ : ∃ r, L[0]? = some r := ⟨_, HLR.out 0 (by omega)⟩
  have hr0l : r0.length = M := by have h := HLR.out 0 (by omega); rw [hr0] at h; injection h with h; rw [h]; exact HRL.out 0
  obtain ⟨gL, capL, x0, cx0, rfl, hgL1, hgL2, hcL, h91, h92, hx0, h93⟩ := hsL.at_ hr0 (by omega)
  clear h91 h92 h93
  rw [HLL.out]
  obtain ⟨vsL, hsV⟩ := hsL
  have HSL : Hid (SSOwnV w2 _ _ vsL L) := Lib.hid hsV
  have HCL := Lib.hid hcL
  have HB3 := Lib.hid (hb2.trans (hb3.mono hb2.size))
  have hs2 : w.heap.size + 1 ≤ (w1.alloc (Obj.cells #[] 28)).heap.size := by simp; omega
  have hs3 := hb3.size
  have HG0 : Hid (Blk w2 w1.heap.size 28 #[]) := Lib.hid ((Blk.new w1 _ _).below hb3 (by simp))
  obtain ⟨lo, hlo⟩ : ∃ lo, lo = (w1.alloc (Obj.cells #[] 28)).heap.size := ⟨_, rfl⟩
  have hw1 : w1.heap.size < lo := by rw [hlo]; simp
  rw [← hlo] at HSL hs2 hs3 hgL1
  have hrow : w2.ownsRow w.heap.size 28 1 (.slice (some ⟨w1.heap.size, 0, none⟩) 0 0) 0 [] := ⟨rfl, .inr ⟨w1.heap.size, 0, #[], rfl, by have := hbb.size; omega, HG0.out, Nat.le_refl _, Nat.zero_le _, rfl, rfl⟩⟩
  have HROW := Lib.hid hrow
  clear hr0 hr0l hsV hcL hb2 hb3 hbb hlo k0 k1 hrow HG0
  go_wp2_with fail
  go_loopw [5, 23] (fun v i wr => ∃ a : Nat, a ≤ M ∧ i = .int .i64 a ∧ SSOwn2 wr w.heap.size w2.heap.size v (redM q (L.take a)) ∧ v.ownBlock ≠ some gL ∧ SSOwnV wr lo (.slice (some ⟨gL, 0, none⟩) L.length capL) vsL L ∧ wr.cell? ⟨gL, 0, none⟩ = some (.slice (some ⟨x0, 0, none⟩) r0.length cx0) ∧ Below w.heap.size w wr ∧ w2.heap.size ≤ wr.heap.size) (fun _ i _ => M - (intOf i).toNat)
  case atStart =>
    refine ⟨0, Nat.zero_le _, rfl, ⟨[], by simpa [redM] using HROW.out, fun i r h => by simp [redM] at h⟩, ?_, HSL.out, HCL.out, HB3.out, Nat.le_refl _⟩
    simp only [Value.ownBlock, ne_eq, Option.some.injEq]
    omega
  case round =>
    obtain ⟨a, ha, rfl, hso, hne, hsl, hcl, hb, hsz⟩ := hrel
    have HSO := Lib.hid hso
    have HSLr := Lib.hid hsl
    have HCLr := Lib.hid hcl
    have HNE := Lib.hid hne
    have HB := Lib.hid hb
    clear hso hsl hcl hne hb
    by_cases hlt : a < M
    · obtain ⟨r, hr⟩ : ∃ r, L[a]? = some r := ⟨_, HLR.out a hlt⟩
      have hrl : r.length = M := by have h := HLR.out a hlt; rw [hr] at h; injection h with h; rw [h]; exact HRL.out a
      obtain ⟨gL', capL', b, cb, hv, h94, hgl, hcell, hcap, h95, hbl, hcells⟩ := HSLr.out.one.at_ hr (by omega)
      have ha0 : (0 : Int) ≤ (a : Int) := Int.natCast_nonneg _
      have ha1 : (a : Int) < (M : Int) := by omega
      injection hv with hv1 _ hv3
      injection hv1 with hv1
      injection hv1 with hv1
      subst hv1
      rw [hrl] at hcell hcap
      have HRL2 := Lib.hid hrl
      have HR := Lib.hid hr
      have HCS := Lib.hid hcells
      clear hv3 hrl hr hcells h94 h95
      by_cases haq : a = q
      · have HS := Lib.hid (redM_skip HR.out haq)
        have hne1 : ((a : Int) != (q : Int)) = false := by simp [haq]
        clear haq
        go_wp2
        exact ⟨⟨a + 1, by omega, by go_num, by rw [HS.out]; exact HSO.out, HNE.out, HSLr.out, HCLr.out, HB.out, hsz⟩, by simp [intOf]; omega⟩
      · have HS := Lib.hid (redM_push HR.out haq)
        have hne1 : ((a : Int) != (q : Int)) = true := by simp; omega
        clear haq
        go_wp2
        have hcl : (redM q (L.take a)).length ≤ 6 := by have := redM_len (q := q) (L := L.take a); have h2 : (L.take a).length ≤ M := by rw [List.length_take]; omega
                                                        omega
        obtain ⟨rs, hrs⟩ : ∃ rs, rs = redM q (L.take a) := ⟨_, rfl⟩
        rw [← hrs] at HS hcl HSO
        obtain ⟨vs, hvs1, hvs2⟩ := HSO.out
        have hrl : r.length = M := HRL2.out
        have hO1 := own_emptyD wr.drew wr.heap.size (Nat.le_refl _) 3
        have hbA : Below wr.heap.size wr (wr.drew.alloc (Obj.cells #[] 3)) := (Below.refl _ _).drew.alloc (Nat.le_refl _) _
        have hn1 : ∀ (i : Nat) (u : Value), (intCells (r.take q))[i]? = some u → (wr.drew.alloc (Obj.cells #[] 3)).cell? ((⟨b, 0, none⟩ : Addr).add i) = some u := fun i u hu => by
          simp only [intCells, List.getElem?_map, Option.map_eq_some_iff] at hu
          obtain ⟨z, hz, rfl⟩ := hu
          have hij : i < q := by have := (List.getElem?_eq_some_iff.1 hz).1; simp at this; omega
          rw [List.getElem?_take_of_lt hij] at hz
          rw [Addr.add_lit, Nat.zero_add]
          exact (hbA.cell (p := ⟨b, i, none⟩) (by simp only; omega)).trans (HCS.out i z hz)
        have g1 : (intCells (r.take q)).length = q * 1 := by simp [intCells]; omega
        have g2 : ∀ u ∈ intCells (r.take q), u.oneCell' = true := fun u hu => by
          simp only [intCells, List.mem_map] at hu
          obtain ⟨z, _, rfl⟩ := hu
          rfl
        have g3 : 0 + q ≤ maxLen := by unfold maxLen; omega
        have g4 : (0 + q) * 8 ≤ 140737488355328 := by omega
        have g5 : wr.heap.size ≤ (wr.drew.alloc (Obj.cells #[] 3)).heap.size := by simp
        have k1 : (intCells (r.drop (q + 1))).length = (M - (q + 1)) * 1 := by simp [intCells, hrl]
        have k2 : ∀ u ∈ intCells (r.drop (q + 1)), u.oneCell' = true := fun u hu => by
          simp only [intCells, List.mem_map] at hu
          obtain ⟨z, _, rfl⟩ := hu
          rfl
        have k3 : 0 + q + (M - (q + 1)) ≤ maxLen := by unfold maxLen; omega
        have k4 : (0 + q + (M - (q + 1))) * 8 ≤ 140737488355328 := by omega
        have n3 : rs.length + 1 ≤ maxLen := by unfold maxLen; omega
        have n4 : (rs.length + 1) * 24 ≤ 140737488355328 := by omega
        have GS1 : Hid (∀ w1, World.grownBy (wr.drew.alloc (Obj.cells #[] 3)) w1 (some wr.heap.size) → wr.heap.size ≤ w1.heap.size) := Lib.hid (fun w1 h => by have := h.size; simp at this; omega)
        have GC1 : Hid (∀ w1, World.grownBy (wr.drew.alloc (Obj.cells #[] 3)) w1 (some wr.heap.size) → ∀ (i : Nat) (u : Value), (intCells (r.drop (q + 1)))[i]? = some u → w1.cell? ((⟨b, q + 1, none⟩ : Addr).add i) = some u) := Lib.hid (fun w1 h i u hu => by
          simp only [intCells, List.getElem?_map, Option.map_eq_some_iff] at hu
          obtain ⟨z, hz, rfl⟩ := hu
          rw [List.getElem?_drop] at hz
          rw [Addr.add_lit]
          rw [h.cell_far ⟨b, q + 1 + i, none⟩ (by simp; omega) (by simp only [ne_eq, Option.some.injEq]; omega)]
          exact (hbA.cell (p := ⟨b, q + 1 + i, none⟩) (by simp only; omega)).trans (HCS.out _ z hz))
        have STEP : Hid (∀ (v1 : Value) (w1 : World) (v2 : Value) (w2 : World), w1.ownsRow wr.heap.size 3 1 v1 (0 + q) ([] ++ intCells (r.take q)) → World.grownBy (wr.drew.alloc (Obj.cells #[] 3)) w1 (some wr.heap.size) →
            w2.ownsRow wr.heap.size 3 1 v2 (0 + q + (M - (q + 1))) ([] ++ intCells (r.take q) ++ intCells (r.drop (q + 1))) → World.grownBy w1 w2 v1.ownBlock → _) := Lib.hid (fun v1 w1' v2 w2' o1 g1 o2 g2 => red_step HB.out hsz hvs1 hvs2 HNE.out HSLr.out (gL := gL) rfl HCLr.out hx0 o1 g1 (by rw [hrl]; exact o2) g2 (by omega))
        have hqc1 : (q : Int) ≤ (cb : Int) := by omega
        have hqc2 : (q : Int) + 1 ≤ (M : Int) := by omega
        have hqc3 : (M : Int) ≤ (cb : Int) := by omega
        have hqc4 : (0 : Int) ≤ (q : Int) := by omega
        have hqc5 : (0 : Int) ≤ (q : Int) + 1 := by omega
        have hqc6 : q ≤ cb := by omega
        have hqc7 : q + 1 ≤ M := by omega
        have HO1 := Lib.hid hO1
        have HN1 := Lib.hid hn1
        have G1 := Lib.hid g1
        have G2 := Lib.hid g2
        have K1 := Lib.hid k1
        have K2 := Lib.hid k2
        have z1 : IntKind.i64.wrap ((q : Int) + 1) = (q : Int) + 1 := by rw [IntKind.wrap_i64]; omega
        have z2 : ((q : Int) + 1).toNat = q + 1 := by omega
        by_cases hcq : cb = q + 1
        · have hdr : r.drop (q + 1) = [] := List.drop_eq_nil_iff.2 (by omega)
          have GE : Hid (∀ (w : World) (ad : Addr) (i : Nat) (u : Value), (intCells (r.drop (q + 1)))[i]? = some u → w.cell? (ad.add i) = some u) := Lib.hid (fun w ad i u hu => by rw [hdr] at hu; simp [intCells] at hu)
          have HZ := Lib.hid (show M - (q + 1) = 0 by omega)
          have K1E := Lib.hid (show (intCells (r.drop (q + 1))).length = 0 * 1 by rw [K1.out, HZ.out])
          have k3E : 0 + q + 0 ≤ maxLen := by have := HZ.out; omega
          have k4E : (0 + q + 0) * 8 ≤ 140737488355328 := by have := HZ.out; omega
          have hq7 : (q : Int) ≤ (q : Int) + 1 := by omega
          have hq8 : (M : Int) ≤ (q : Int) + 1 := by omega
          clear hdr hO1 hn1 g1 g2 k1 k2 hrl hbA hvs1 hvs2 hrs
          subst hcq
          go_region_law (first
            | (refine step_append_ownD rfl (.tmp 32) (.tmp 35) 28 rfl wr.heap.size 3 i0 (.int .i64 0) 1 8 Try.underlying28 hi hz0 hz1 hz2 rfl (by decide) _ _ _ rfl HO1.out ⟨b, 0, none⟩ q _ (intCells (r.take q)) rfl G1.out HN1.out G2.out g3 g4 g5 ?_
               intro v1 w3 hown1 hgrow1
               have hg1 : World.grownBy (wr.drew.alloc (Obj.cells #[] 3)) w3 (some wr.heap.size) := hgrow1
               have HG1 := Lib.hid hg1
               have hs1 : wr.heap.size ≤ w3.heap.size := GS1.out w3 hg1
               clear hgrow1 hg1)
            | (refine step_append_ownD rfl (.tmp 36) (.tmp 40) 28 rfl wr.heap.size 3 i0 (.int .i64 0) 1 8 Try.underlying28 hi hz0 hz1 hz2 rfl (by decide) _ _ _ rfl hown1 _ _ _ (intCells (r.drop (q + 1))) rfl K1E.out (GE.out w3 _) K2.out k3E k4E hs1 ?_
               intro v2 w4 hown2 hgrow2
               obtain ⟨hq1, hq2, hq3⟩ := STEP.out v1 w3 v2 w4 hown1 HG1.out (by rw [HZ.out]; exact hown2) hgrow2
               obtain ⟨A2, m2, c2, rfl⟩ := own_sl hown2
               have HQ1 := Lib.hid hq1
               have HQ3 := Lib.hid hq3
               clear hq1 hq3 hown2 hgrow2 hown1 HG1 hs1)
            | (refine step_append_ownD rfl (.tmp 31) (.tmp 42) 41 rfl w.heap.size 28 i1 (.slice none 0 0) 1 24 Try.underlying41 hj hy0 hy1 hy2 rfl (by decide) _ _ _ rfl HQ1.out ⟨w4.heap.size, 0, none⟩ 1 1 [_] rfl rfl (one_cell _ _ rfl _ _) (fun u hu => by rw [List.mem_singleton] at hu; rw [hu]; rfl) n3 n4 hq2 ?_
               intro v3 w5 hown3 hgrow3
               have HF := Lib.hid (HQ3.out w5 v3 hown3 hgrow3)
               clear hown3 hgrow3 HQ3 HQ1))
          obtain ⟨f1, f2, f3, f4, f5, hclw⟩ := HF.out
          rw [← HS.out] at f1
          have F1 := Lib.hid f1
          have F2 := Lib.hid f2
          have F3 := Lib.hid f3
          have F4 := Lib.hid f4
          have F6 := Lib.hid hclw
          clear f1 f2 f3 f4 hclw HF
          go_wp2
          exact ⟨⟨a + 1, by omega, by go_num, F1.out, F2.out, F3.out, F6.out, F4.out, f5⟩, by simp [intOf]; omega⟩

        · clear hO1 hn1 g1 g2 k1 k2 hrl hbA hvs1 hvs2 hrs
          go_region_law (first
            | (refine step_append_ownD rfl (.tmp 32) (.tmp 35) 28 rfl wr.heap.size 3 i0 (.int .i64 0) 1 8 Try.underlying28 hi hz0 hz1 hz2 rfl (by decide) _ _ _ rfl HO1.out ⟨b, 0, none⟩ q _ (intCells (r.take q)) rfl G1.out HN1.out G2.out g3 g4 g5 ?_
               intro v1 w3 hown1 hgrow1
               have hg1 : World.grownBy (wr.drew.alloc (Obj.cells #[] 3)) w3 (some wr.heap.size) := hgrow1
               have HG1 := Lib.hid hg1
               have hs1 : wr.heap.size ≤ w3.heap.size := GS1.out w3 hg1
               clear hgrow1 hg1)
            | (refine step_append_ownD rfl (.tmp 36) (.tmp 40) 28 rfl wr.heap.size 3 i0 (.int .i64 0) 1 8 Try.underlying28 hi hz0 hz1 hz2 rfl (by decide) _ _ _ rfl hown1 _ _ _ (intCells (r.drop (q + 1))) rfl K1.out (GC1.out w3 HG1.out) K2.out k3 k4 hs1 ?_
               intro v2 w4 hown2 hgrow2
               obtain ⟨hq1, hq2, hq3⟩ := STEP.out v1 w3 v2 w4 hown1 HG1.out hown2 hgrow2
               obtain ⟨A2, m2, c2, rfl⟩ := own_sl hown2
               have HQ1 := Lib.hid hq1
               have HQ3 := Lib.hid hq3
               clear hq1 hq3 hown2 hgrow2 hown1 HG1 hs1)
            | (refine step_append_ownD rfl (.tmp 31) (.tmp 42) 41 rfl w.heap.size 28 i1 (.slice none 0 0) 1 24 Try.underlying41 hj hy0 hy1 hy2 rfl (by decide) _ _ _ rfl HQ1.out ⟨w4.heap.size, 0, none⟩ 1 1 [_] rfl rfl (one_cell _ _ rfl _ _) (fun u hu => by rw [List.mem_singleton] at hu; rw [hu]; rfl) n3 n4 hq2 ?_
               intro v3 w5 hown3 hgrow3
               have HF := Lib.hid (HQ3.out w5 v3 hown3 hgrow3)
               clear hown3 hgrow3 HQ3 HQ1))
          obtain ⟨f1, f2, f3, f4, f5, hclw⟩ := HF.out
          rw [← HS.out] at f1
          have F1 := Lib.hid f1
          have F2 := Lib.hid f2
          have F3 := Lib.hid f3
          have F4 := Lib.hid f4
          have F6 := Lib.hid hclw
          clear f1 f2 f3 f4 hclw HF
          go_wp2
          exact ⟨⟨a + 1, by omega, by go_num, F1.out, F2.out, F3.out, F6.out, F4.out, f5⟩, by simp [intOf]; omega⟩

    · have hso := HSO.out.one (by omega)
      obtain ⟨Ar, cr, hu, hr⟩ := hso.rows
      rw [List.take_of_length_le (by rw [HLL.out]; omega)] at hu hr
      subst hu
      have HRW := Lib.hid hr
      clear hr hso
      go_wp2
      go_ret
      exact ⟨Ar, cr, rfl, HRW.out, HB.out⟩
noncomputable def redB (N : Int) (es : List (Int × Int)) (q : Int) : List (List Int) := if graphB N es = true ∧ vB q N = true then redM q.toNat (lapM N.toNat es) else []
theorem redB_t {N : Int} {es : List (Int × Int)} {v : Int} (h : graphB N es = true) (h2 : vB v N = true) : redB N es v = redM v.toNat (lapM N.toNat es) := by rw [redB, if_pos ⟨h, h2⟩]
theorem redB_f {N : Int} {es : List (Int × Int)} {v : Int} (h : graphB N es = false ∨ vB v N = false) : redB N es v = [] := by
  rw [redB, if_neg]
  rintro ⟨h1, h2⟩
  rcases h with h | h
  · rw [h] at h1; cases h1
  · rw [h] at h2; cases h2
set_option maxRecDepth 100000 in
set_option maxHeartbeats 2000000 in
theorem specRed_no (N : Int) (A : Option Addr) (c : Nat) (es : List (Int × Int)) (v : Int) (w : World) (hn : es.length ≤ 1048576) (h : graphB N es = false ∨ (graphB N es = true ∧ vB v N = false)) (hE : EdgeS w w.heap.size A es) :
    Calls Try.prog 130 #[.agg #[.int .i64 N, .slice A es.length c], .int .i64 v] w (GivesRows w []) := by
  have HE := Lib.hid hE
  clear hE
  have hb0 : Below w.heap.size w (w.alloc (Obj.cells #[.int .i64 N, .slice A es.length c] 25)) := (Below.refl _ _).alloc (Nat.le_refl _) _
  rcases h with hB | ⟨hB, hv⟩
  · go_enter Try.func130, Try.ntmps130
    go_wp2_with fail
    refine (specGraphOk _ _ _ _ _ (by omega) (HE.out.up_ hb0)).mono ?_
    rintro e w1 ⟨rfl, hb1⟩
    have hbb : Below w.heap.size w w1 := hb0.trans (hb1.mono hb0.size)
    clear hb0 hb1
    go_wp2
    go_ret
    exact ⟨none, 0, rfl, fun h => absurd h (by simp), hbb⟩
  · obtain ⟨hN1, hN6, hn12⟩ := edgesB_lims (graphB_all hB).1
    have hin : inB v 0 (N - 1) = false := by rw [inB_vB]; exact hv
    go_enter Try.func130, Try.ntmps130
    go_wp2_with fail
    refine (specGraphOk _ _ _ _ _ (by omega) (HE.out.up_ hb0)).mono ?_
    rintro e w1 ⟨rfl, hb1⟩
    have hbb : Below w.heap.size w w1 := hb0.trans (hb1.mono hb0.size)
    have hx1 := (Blk.new w 25 #[.int .i64 N, .slice A es.length c]).below hb1 (by simp)
    have c0 : w1.cell? ⟨w.heap.size, 0, none⟩ = some (.int .i64 N) := by rw [hx1.cell]; rfl
    have c1 : w1.cell? ⟨w.heap.size, 1, none⟩ = some (.slice A es.length c) := by rw [hx1.cell]; rfl
    clear hb0 hb1 hx1
    go_wp2_with fail
    refine (l01In_any _ _ _ _).mono ?_
    rintro e w2 ⟨rfl, rfl⟩
    go_wp2
    go_ret
    exact ⟨none, 0, rfl, fun h => absurd h (by simp), hbb⟩
theorem specRlp (N : Int) (A : Option Addr) (c : Nat) (es : List (Int × Int)) (q : Int) (w : World) (hn : es.length ≤ 1048576) (hE : EdgeS w w.heap.size A es) :
    Calls Try.prog 130 #[.agg #[.int .i64 N, .slice A es.length c], .int .i64 q] w (GivesRows w (redB N es q)) := by
  cases h : graphB N es with
  | false => rw [redB_f (.inl h)]; exact specRed_no N A c es q w hn (.inl h) hE
  | true =>
    cases h2 : vB q N with
    | false => rw [redB_f (.inr h2)]; exact specRed_no N A c es q w hn (.inr ⟨h, h2⟩) hE
    | true =>
      rw [redB_t h h2]
      have h1 := edgesB_lims (graphB_all h).1
      have h3 := vB_iff h2
      obtain ⟨M, rfl⟩ : ∃ M : Nat, N = (M : Int) := ⟨N.toNat, by omega⟩
      obtain ⟨k, rfl⟩ : ∃ k : Nat, q = (k : Int) := ⟨q.toNat, by omega⟩
      rw [Int.toNat_natCast, Int.toNat_natCast]
      exact specRed_yes M k A c es w h (by omega) hE
theorem redB_len {N : Int} {es : List (Int × Int)} {q : Int} : (redB N es q).length ≤ 6 ∧ ∀ r ∈ redB N es q, r.length ≤ 6 := by
  unfold redB
  split
  · rename_i h
    have h1 := edgesB_lims (graphB_all h.1).1
    have h2 := redM_len (q := q.toNat) (L := lapM N.toNat es)
    rw [lapM_len] at h2
    refine ⟨by omega, fun r hr => ?_⟩
    simp only [redM, List.mem_map] at hr
    obtain ⟨r0, hr0, rfl⟩ := hr
    have h3 := List.mem_of_mem_eraseIdx hr0
    simp only [lapM, List.mem_map, List.mem_range] at h3
    obtain ⟨a, _, rfl⟩ := h3
    rw [List.length_eraseIdx]
    have := lapR_len N.toNat es a
    split <;> omega
  · exact ⟨by simp, fun r hr => by simp at hr⟩
end Go.Proofs.Ytdpojcgeblbfeaa

/- The program's ReducedLaplacian. -/
namespace Go.Proofs.Ytdpojcgeblbfeaa
open Go.RowKit Go.Sort Go.Shelf

theorem put_moves {α : Type} [Inhabited α] {enc : α → Value} (w : World) (n g : Nat) (d : Array α) : Moves g (g + 1) w (putRow enc (Sort.ahead w n) g 0 d) :=
  ⟨rfl, rfl, rfl, by rw [size_putRow]; exact Nat.le_refl _, fun i hi ho => by
    show (w.heap.modify g _)[i]? = w.heap[i]?
    rw [Array.getElem?_modify, if_neg (by omega)]⟩
theorem put_size {α : Type} [Inhabited α] {enc : α → Value} (w : World) (n g : Nat) (d : Array α) : (putRow enc (Sort.ahead w n) g 0 d).heap.size = w.heap.size := by rw [size_putRow]; rfl
theorem delI_any (G q : Nat) (r : List Int) (w : World) (hq : q < r.length) (hl : r.length ≤ 6) (hB : Blk w G 3 (intCells r).toArray) :
    Calls Try.prog 185 #[.slice (some ⟨G, 0, none⟩) r.length r.length, .int .i64 (q : Int), .int .i64 ((q : Int) + 1)] w fun e w' =>
      e = .returned (.slice (some ⟨G, 0, none⟩) (r.length - 1) r.length) ∧ Moves G (G + 1) w w' ∧ w'.heap.size = w.heap.size ∧ ∀ (j : Nat) (z : Int), (r.eraseIdx q)[j]? = some z → w'.cell? ⟨G, j, none⟩ = some (.int .i64 z) ∧ w'.frozen? ⟨G, j, none⟩ = false := by
  have hH : Holds (Value.int .i64) w G 0 r.toArray := fun j hj => by
    rw [Nat.zero_add, hB.cell]
    have hj2 : j < r.length := by simpa using hj
    exact ⟨by simp [intCells, hj2, getElem!_pos], hB.frozen _⟩
  have h := Try.slices_Delete_int G 0 r.length q (q + 1) r w hH (Nat.le_refl _) (by omega) (by omega) (by omega)
  have e1 : ((q + 1 : Nat) : Int) = (q : Int) + 1 := by omega
  have e2 : r.length - (q + 1 - q) = r.length - 1 := by omega
  rw [e1, e2] at h
  refine h.mono ?_
  rintro e w' ⟨rfl, n, rfl⟩
  refine ⟨rfl, put_moves _ _ _ _, put_size _ _ _ _, fun j z hz => ?_⟩
  have hjl : j < (r.eraseIdx q).length := (List.getElem?_eq_some_iff.1 hz).1
  have hel : (r.eraseIdx q).length = r.length - 1 := List.length_eraseIdx_of_lt hq
  have hs : (r.take q ++ r.drop (q + 1) ++ List.replicate (q + 1 - q) 0).toArray.size = r.toArray.size := by simp; omega
  have hp := holds_putRow (Value.int .i64) (Sort.ahead w n) G 0 r.toArray (r.take q ++ r.drop (q + 1) ++ List.replicate (q + 1 - q) 0).toArray hH hs j (by rw [hs]; simp; omega)
  rw [Nat.zero_add] at hp
  refine ⟨hp.1.trans ?_, hp.2⟩
  have : (r.take q ++ r.drop (q + 1) ++ List.replicate (q + 1 - q) 0)[j]? = some z := by
    rw [← List.eraseIdx_eq_take_drop_succ, List.getElem?_append_left hjl, hz]
  have hlt := (List.getElem?_eq_some_iff.1 this).1
  rw [getElem!_pos _ _ (by simpa using hlt)]
  have h2 := (List.getElem?_eq_some_iff.1 this).2
  simp only [List.getElem_toArray]
  rw [h2]
instance : Inhabited Nat := ⟨0⟩
def encR (M : Nat) (G : Nat) : Value := if G = 0 then .slice none 0 0 else .slice (some ⟨G, 0, none⟩) M M
theorem encR_one (M : Nat) : OneCell (encR M) := fun x => by unfold encR; split <;> rfl
theorem delR_any (g q M : Nat) (G : Nat → Nat) (w : World) (hq : q < M) (hl : M ≤ 6) (hG : ∀ i, i < M → G i ≠ 0) (hB : ∀ i, i < M → w.cell? ⟨g, i, none⟩ = some (.slice (some ⟨G i, 0, none⟩) M M) ∧ w.frozen? ⟨g, i, none⟩ = false) :
    Calls Try.prog 183 #[.slice (some ⟨g, 0, none⟩) M M, .int .i64 (q : Int), .int .i64 ((q : Int) + 1)] w fun e w' =>
      e = .returned (.slice (some ⟨g, 0, none⟩) (M - 1) M) ∧ Moves g (g + 1) w w' ∧ w'.heap.size = w.heap.size ∧ ∀ i, i < M - 1 → w'.cell? ⟨g, i, none⟩ = some (.slice (some ⟨G (skip q i), 0, none⟩) M M) ∧ w'.frozen? ⟨g, i, none⟩ = false := by
  obtain ⟨i1, hj, hy0, hy1, hy2⟩ := info_parts rowsInfo
  obtain ⟨d, hd⟩ : ∃ d : Array Nat, d = ((List.range M).map G).toArray := ⟨_, rfl⟩
  have hds : d.size = M := by rw [hd]; simp
  have hdi : ∀ i, i < M → d[i]! = G i := fun i hi => by rw [getElem!_pos _ _ (by omega)]; simp [hd]
  have hH : Holds (encR M) w g 0 d := fun j hj => by
    have hj2 : j < M := by omega
    rw [Nat.zero_add, hdi j hj2, encR, if_neg (hG j hj2)]
    exact hB j hj2
  have h := Try.slices_Delete_f183 (encR M) (encR_one M) 0 (fun w => by rw [encR, if_pos rfl]; kernel_rfl) i1 hj hy1 g 0 M q (q + 1) d w hH (by omega) (by omega) (by omega) (by omega)
  have e1 : ((q + 1 : Nat) : Int) = (q : Int) + 1 := by omega
  have e2 : M - (q + 1 - q) = M - 1 := by omega
  rw [e1, hds, e2] at h
  refine h.mono ?_
  rintro e w' ⟨rfl, n, rfl⟩
  refine ⟨rfl, put_moves _ _ _ _, put_size _ _ _ _, fun i hi => ?_⟩
  have hs : (d.toList.take q ++ d.toList.drop (q + 1) ++ List.replicate (q + 1 - q) 0).toArray.size = d.size := by simp; omega
  have hp := holds_putRow (encR M) (Sort.ahead w n) g 0 d (d.toList.take q ++ d.toList.drop (q + 1) ++ List.replicate (q + 1 - q) 0).toArray hH hs i (by rw [hs]; omega)
  rw [Nat.zero_add] at hp
  refine ⟨hp.1.trans ?_, hp.2⟩
  have hsk : skip q i < M := by unfold skip; split <;> omega
  have : (d.toList.take q ++ d.toList.drop (q + 1) ++ List.replicate (q + 1 - q) 0)[i]? = some (G (skip q i)) := by
    rw [← List.eraseIdx_eq_take_drop_succ, List.getElem?_append_left (by rw [List.length_eraseIdx_of_lt (by simp; omega)]; simp; omega), List.getElem?_eraseIdx]
    have hgi : ∀ k, k < M → d.toList[k]? = some (G k) := fun k hk => by rw [hd]; simp [hk]
    unfold skip at hsk ⊢
    split
    · rw [hgi _ (by omega)]
    · rw [hgi _ (by omega)]
  have hlt := (List.getElem?_eq_some_iff.1 this).1
  rw [getElem!_pos _ _ (by simpa using hlt)]
  have h2 := (List.getElem?_eq_some_iff.1 this).2
  simp only [List.getElem_toArray]
  rw [h2, encR, if_neg (hG _ hsk)]
def RedSt (w : World) (g : Nat) (G : Nat → Nat) (rs : List (List Int)) (q M k : Nat) : Prop :=
  ∀ (i : Nat) (r : List Int), rs[i]? = some r → r.length = M ∧ w.frozen? ⟨g, i, none⟩ = false ∧ w.cell? ⟨g, i, none⟩ = some (.slice (some ⟨G i, 0, none⟩) (if i < k then M - 1 else M) M) ∧
    (i < k → ∀ (j : Nat) (z : Int), (r.eraseIdx q)[j]? = some z → w.cell? ⟨G i, j, none⟩ = some (.int .i64 z) ∧ w.frozen? ⟨G i, j, none⟩ = false) ∧ (k ≤ i → Blk w (G i) 3 (intCells r).toArray)
theorem RedSt.step {w w2 : World} {g q M k : Nat} {G : Nat → Nat} {rs : List (List Int)} {r : List Int} (h : RedSt w g G rs q M k) (hr : rs[k]? = some r) (hm : Moves (G k) (G k + 1) w w2) (hg : ∀ i, i < rs.length → G i ≠ g ∧ G i < w.heap.size)
    (hgl : g < w.heap.size) (hinj : ∀ i j, i < rs.length → j < rs.length → i ≠ j → G i ≠ G j) (hc : ∀ (j : Nat) (z : Int), (r.eraseIdx q)[j]? = some z → w2.cell? ⟨G k, j, none⟩ = some (.int .i64 z) ∧ w2.frozen? ⟨G k, j, none⟩ = false) :
    RedSt (w2.setCell ⟨g, k, none⟩ (.slice (some ⟨G k, 0, none⟩) (M - 1) M)) g G rs q M (k + 1) := by
  have hk : k < rs.length := (List.getElem?_eq_some_iff.1 hr).1
  intro i s hs
  have hi : i < rs.length := (List.getElem?_eq_some_iff.1 hs).1
  obtain ⟨h1, h2, h3, h4, h5⟩ := h i s hs
  have hgk := hg k hk
  have hbg := hm.block g hgl (by omega)
  have hfg : w2.frozen? ⟨g, i, none⟩ = w.frozen? ⟨g, i, none⟩ := World.frozen?_of_block (a := ⟨g, i, none⟩) hbg
  have hcg : w2.cell? ⟨g, i, none⟩ = w.cell? ⟨g, i, none⟩ := World.cell?_of_block (a := ⟨g, i, none⟩) hbg
  refine ⟨h1, by rw [World.frozen?_setCell, hfg]; exact h2, ?_, fun hik j z hz => ?_, fun hik => ?_⟩
  · by_cases e : i = k
    · subst e
      rw [World.cell?_setCell_same (h := hcg.trans h3), if_pos (by omega)]
    · rw [World.cell?_setCell_other (h := by intro q; injection q with _ q; exact e q.symm), hcg, h3]
      by_cases hik : i < k
      · rw [if_pos hik, if_pos (by omega)]
      · rw [if_neg hik, if_neg (by omega)]
  · have hgi := hg i hi
    rw [World.cell?_setCell_other (h := by intro q; injection q with q; exact hgi.1 q.symm), World.frozen?_setCell]
    by_cases e : i = k
    · subst e
      rw [hr] at hs
      injection hs with hs
      subst hs
      exact hc j z hz
    · have hne := hinj i k hi hk e
      have hbi := hm.block (G i) hgi.2 (by omega)
      rw [World.cell?_of_block (a := ⟨G i, j, none⟩) hbi, World.frozen?_of_block (a := ⟨G i, j, none⟩) hbi]
      exact h4 (by omega) j z hz
  · have hgi := hg i hi
    have hne := hinj i k hi hk (by omega)
    exact ((h5 (by omega)).moves hm (by omega)).far (Ne.symm (fun e => hgi.1 e.symm)) _
theorem RedSt.own {w : World} {g q M base : Nat} {G : Nat → Nat} {rs : List (List Int)} (h : RedSt w g G rs q M rs.length) (hq : q < M) (hgl : g < w.heap.size) (hgb : base ≤ g) (hg : ∀ i, i < rs.length → G i ≠ g ∧ G i < w.heap.size ∧ base ≤ G i) (hinj : ∀ i j, i < rs.length → j < rs.length → i ≠ j → G i ≠ G j) :
    OwnSS w base w.heap.size (some ⟨g, 0, none⟩) (rs.map fun r => r.eraseIdx q) := fun _ => by
  refine ⟨g, 0, G, rfl, hgb, hgl, Nat.le_refl _, fun i r hr => ?_, fun i j hi hj hne => hinj i j (by simpa using hi) (by simpa using hj) hne⟩
  rw [List.getElem?_map, Option.map_eq_some_iff] at hr
  obtain ⟨s, hs, rfl⟩ := hr
  have hi : i < rs.length := (List.getElem?_eq_some_iff.1 hs).1
  obtain ⟨h1, h2, h3, h4, h5⟩ := h i s hs
  have hgi := hg i hi
  refine ⟨some ⟨G i, 0, none⟩, M, ?_, fun _ => ⟨0, rfl, hgi.2.2, hgi.2.1, fun j z hz => ?_⟩, hgi.1⟩
  · rw [Nat.zero_add, h3, if_pos hi, List.length_eraseIdx_of_lt (by omega), h1]
  · rw [Nat.zero_add]
    exact h4 hi j z hz
def GivesSSC (w : World) (rs : List (List Int)) (e : Ending) (w' : World) : Prop :=
  ∃ (A : Option Addr) (c : Nat), e = .returned (.slice A rs.length c) ∧ rs.length ≤ c ∧ OwnSS w' w.heap.size w'.heap.size A rs ∧ Below w.heap.size w w'
theorem GivesSSC.plain {w w' : World} {rs : List (List Int)} {e : Ending} (h : GivesSSC w rs e w') : GivesSS w rs e w' := by
  obtain ⟨A, c, h1, -, h2⟩ := h
  exact ⟨A, c, h1, h2⟩
set_option maxRecDepth 100000 in
set_option maxHeartbeats 4000000 in
theorem implRed_yes (M q : Nat) (A : Option Addr) (c : Nat) (es : List (Int × Int)) (w : World) (hB : graphB M es = true) (hq : q < M) (hE : EdgeS w w.heap.size A es) :
    Calls Try.prog 132 #[.agg #[.int .i64 (M : Int), .slice A es.length c], .int .i64 (q : Int)] w (GivesSSC w (redM q (lapM M es))) := by
  obtain ⟨hN1, hN6, hn12⟩ := edgesB_lims (graphB_all hB).1
  have HE := Lib.hid hE
  have hvb : vB (q : Int) (M : Int) = true := vB_t (by omega)
  have HG := fun w h => Lib.hid (implGraphOk (M : Int) A c es w (by omega) h)
  rw [hB] at HG
  have HL := fun w h => Lib.hid (implLap_yes M A c es w hB h)
  have HLR := Lib.hid (fun a h => lapM_at (M := M) es (a := a) h)
  have HRL := Lib.hid (fun a => lapR_len M es a)
  have HLL := Lib.hid (lapM_len M es)
  obtain ⟨L, hL⟩ : ∃ L, L = lapM M es := ⟨_, rfl⟩
  rw [← hL] at HL HLR HLL ⊢
  clear hE hB hL
  have hb0 : Below w.heap.size w (w.alloc (Obj.cells #[.int .i64 (M : Int), .slice A es.length c] 25)) := (Below.refl _ _).alloc (Nat.le_refl _) _
  go_enter Try.func132, Try.ntmps132
  go_wp2_with fail
  refine (HG _ (HE.out.up_ hb0)).out.mono ?_
  rintro e w1 ⟨rfl, hb1⟩
  have hbb : Below w.heap.size w w1 := hb0.trans (hb1.mono hb0.size)
  have hx1 := (Blk.new w 25 #[.int .i64 (M : Int), .slice A es.length c]).below hb1 (by simp)
  have hlx := hx1.lt
  have k0 : w1.cell? ⟨w.heap.size, 0, none⟩ = some (.int .i64 (M : Int)) := by rw [hx1.cell]; rfl
  have k1 : w1.cell? ⟨w.heap.size, 1, none⟩ = some (.slice A es.length c) := by rw [hx1.cell]; rfl
  have HX1 := Lib.hid hx1
  clear hb0 hb1 hx1
  go_wp2_with fail
  refine (hasVertex_any _ _ _ _ ⟨_, _, _, rfl⟩).mono ?_
  rintro e w2 ⟨rfl, hb2⟩
  have hx2 := HX1.out.below hb2 hlx
  have j0 : w2.cell? ⟨w.heap.size, 0, none⟩ = some (.int .i64 (M : Int)) := by rw [hx2.cell]; rfl
  have j1 : w2.cell? ⟨w.heap.size, 1, none⟩ = some (.slice A es.length c) := by rw [hx2.cell]; rfl
  have hb3 : Below w.heap.size w w2 := hbb.trans (hb2.mono hbb.size)
  clear k0 k1 hbb hb2 hx2 HX1
  go_wp2_with fail
  refine (HL _ (HE.out.up_ hb3)).out.mono ?_
  rintro e w3 ⟨g, rfl, hgw, hrows, hb4⟩
  have hb5 : Below w.heap.size w w3 := hb3.trans (hb4.mono hb3.size)
  obtain ⟨vals, G, r1, r2, r3, r4⟩ := hrows
  have hgl := r1.lt
  have hw2 := hb3.size
  have hrow : ∀ i r, L[i]? = some r → w3.cell? ⟨g, i, none⟩ = some (.slice (some ⟨G i, 0, none⟩) M M) ∧ g < G i ∧ G i < w3.heap.size ∧ Blk w3 (G i) 3 (intCells r).toArray ∧ r.length = M := fun i r hr => by
    have hi : i < M := by have := (List.getElem?_eq_some_iff.1 hr).1; have := HLL.out; omega
    have hrl : r.length = M := by have h := HLR.out i hi; rw [hr] at h; injection h with h; rw [h]; exact HRL.out i
    obtain ⟨q1, q2, q3, q4⟩ := r3 i r hi hr
    refine ⟨?_, q2, q3, q4, hrl⟩
    rw [r1.cell, List.getElem?_toArray, List.getElem?_append_left (by omega), q1, hrl]
  have hat : ∀ i, i < M → ∃ r, L[i]? = some r := fun i hi => ⟨_, HLR.out i hi⟩
  have HDR := Lib.hid (delR_any g q M G w3 hq (by omega) (fun i hi => by obtain ⟨r, hr⟩ := hat i hi; have := (hrow i r hr).2.1; omega) (fun i hi => by obtain ⟨r, hr⟩ := hat i hi; exact ⟨(hrow i r hr).1, r1.frozen _⟩))
  have HROW := Lib.hid hrow
  have HAT := Lib.hid hat
  have HINJ := Lib.hid r4
  have HB5 := Lib.hid hb5
  clear hrow hat r1 r2 r3 r4 hb3 hb4 hb5 j0 j1
  go_wp2_with fail
  refine HDR.out.mono ?_
  rintro e w4 ⟨rfl, hm4, hs4, hc4⟩
  have hsk : ∀ i, i < M - 1 → skip q i < M := fun i hi => by unfold skip; split <;> omega
  obtain ⟨rs, hrs⟩ : ∃ rs, rs = L.eraseIdx q := ⟨_, rfl⟩
  have hrsl : rs.length = M - 1 := by rw [hrs, List.length_eraseIdx_of_lt (by have := HLL.out; omega), HLL.out]
  have hrat : ∀ (i : Nat) (r : List Int), rs[i]? = some r → i < M - 1 ∧ L[skip q i]? = some r := fun i r hr => by
    have hi := (List.getElem?_eq_some_iff.1 hr).1
    refine ⟨by omega, ?_⟩
    rw [hrs, List.getElem?_eraseIdx] at hr
    unfold skip
    split at hr
    · rw [if_pos (by assumption)]; exact hr
    · rw [if_neg (by assumption)]; exact hr
  obtain ⟨H, hH⟩ : ∃ H : Nat → Nat, H = fun i => G (skip q i) := ⟨_, rfl⟩
  have hst : RedSt w4 g H rs q M 0 := fun i r hr => by
    obtain ⟨hi, hL⟩ := hrat i r hr
    obtain ⟨p1, p2, p3, p4, p5⟩ := HROW.out _ r hL
    refine ⟨p5, (hc4 i hi).2, by rw [(hc4 i hi).1, if_neg (by omega), hH], fun h => absurd h (by omega), fun _ => by rw [hH]; exact p4.moves hm4 (by omega)⟩
  have hHg : ∀ i, i < rs.length → H i ≠ g ∧ H i < w4.heap.size ∧ w.heap.size ≤ H i := fun i hi => by
    obtain ⟨r, hr⟩ : ∃ r, rs[i]? = some r := ⟨_, List.getElem?_eq_getElem hi⟩
    obtain ⟨p1, p2, p3, _, _⟩ := HROW.out _ r (hrat i r hr).2
    rw [hH]
    show G (skip q i) ≠ g ∧ G (skip q i) < w4.heap.size ∧ w.heap.size ≤ G (skip q i)
    exact ⟨by omega, by omega, by omega⟩
  have hHi : ∀ i j, i < rs.length → j < rs.length → i ≠ j → H i ≠ H j := fun i j hi hj hne => by
    have s1 := hsk i (by omega)
    have s2 := hsk j (by omega)
    rw [hH]
    have h3 : skip q i ≠ skip q j := by unfold skip; split <;> split <;> omega
    rcases Nat.lt_or_ge (skip q i) (skip q j) with l | l
    · have := HINJ.out _ _ l s2; simp only; omega
    · have := HINJ.out _ _ (show skip q j < skip q i by omega) s1; simp only; omega
  have HB4 : Hid (Below w.heap.size w w4) := Lib.hid (belowMoves HB5.out hm4 (by omega) HB5.out.size)
  have HST := Lib.hid hst
  have HHG := Lib.hid hHg
  have HHI := Lib.hid hHi
  have HRSL := Lib.hid hrsl
  have HRES := Lib.hid (show redM q L = rs.map fun r => r.eraseIdx q by rw [redM, hrs])
  have hgl4 : g < w4.heap.size := by omega
  have hM1 : M - 1 ≤ 5 := by omega
  have HS4 := Lib.hid hs4
  clear hc4 hsk hrsl hrat hst hHg hHi hm4 hs4 HROW HAT HINJ HB5 HDR hrs hH
  go_wp2_with fail
  go_loopw [24] (fun i wr => ∃ k : Nat, k ≤ M - 1 ∧ i = .int .i64 k ∧ RedSt wr g H rs q M k ∧ wr.heap.size = w4.heap.size ∧ Below w.heap.size w wr) (fun i _ => M - 1 - (intOf i).toNat)
  case atStart => exact ⟨0, Nat.zero_le _, rfl, HST.out, rfl, HB4.out⟩
  case round =>
    obtain ⟨k, hk, rfl, hst, hsz, hb⟩ := hrel
    have HR := Lib.hid hst
    have HZ := Lib.hid hsz
    have HB := Lib.hid hb
    clear hst hsz hb
    by_cases hlt : k < M - 1
    · obtain ⟨r, hr⟩ : ∃ r, rs[k]? = some r := ⟨_, List.getElem?_eq_getElem (by have := HRSL.out; omega)⟩
      obtain ⟨p1, p2, p3, p4, p5⟩ := HR.out k r hr
      rw [if_neg (by omega)] at p3
      have hk0 : (0 : Int) ≤ (k : Int) := Int.natCast_nonneg _
      have hk1 : (k : Int) < ((M - 1 : Nat) : Int) := by omega
      have hd := delI_any (H k) q r wr (by omega) (by omega) (p5 (Nat.le_refl _))
      rw [p1] at hd
      have HD := Lib.hid hd
      have HRK := Lib.hid hr
      have hgk := HHG.out k (by have := HRSL.out; omega)
      obtain ⟨hgk1, hgk2, hgk3⟩ := hgk
      clear hd hr p1 p4 p5
      go_wp2_with fail
      refine HD.out.mono ?_
      rintro e w5 ⟨rfl, hm5, hs5, hc5⟩
      have hbg := hm5.block g (by have := HZ.out; omega) (by omega)
      have f1 : w5.cell? ⟨g, k, none⟩ = some (.slice (some ⟨H k, 0, none⟩) M M) := (World.cell?_of_block (a := ⟨g, k, none⟩) hbg).trans p3
      have f2 : w5.frozen? ⟨g, k, none⟩ = false := (World.frozen?_of_block (a := ⟨g, k, none⟩) hbg).trans p2
      have HN := Lib.hid (RedSt.step HR.out HRK.out hm5 (fun i hi => by have := HHG.out i hi; have := HZ.out; exact ⟨by omega, by omega⟩) (by have := HZ.out; omega) HHI.out hc5)
      have HBN := Lib.hid ((belowMoves HB.out hm5 (by omega) HB.out.size).setCell (p := ⟨g, k, none⟩) (by simp only; omega) (.slice (some ⟨H k, 0, none⟩) (M - 1) M))
      have HSN := Lib.hid (show (w5.setCell ⟨g, k, none⟩ (.slice (some ⟨H k, 0, none⟩) (M - 1) M)).heap.size = w4.heap.size by rw [World.size_setCell, hs5, HZ.out])
      clear hm5 hs5 hc5 hbg p2 p3
      go_wp2
      exact ⟨⟨k + 1, by omega, by go_num, HN.out, HSN.out, HBN.out⟩, by simp [intOf]; omega⟩
    · have hkl : k = rs.length := by have := HRSL.out; omega
      have hst := HR.out
      rw [hkl] at hst
      have HO := Lib.hid (RedSt.own hst hq (by have := HZ.out; omega) (show w.heap.size ≤ g by omega) (fun i hi => by have h1 := HHG.out i hi; have h2 := HZ.out; exact ⟨by omega, by omega, by omega⟩) HHI.out)
      have HLEN := Lib.hid (show (rs.map fun r => r.eraseIdx q).length = M - 1 by rw [List.length_map, HRSL.out])
      clear hst hkl
      go_wp2
      go_ret
      exact ⟨some ⟨g, 0, none⟩, M, by rw [HRES.out, HLEN.out]; rfl, by rw [HRES.out, HLEN.out]; omega, by rw [HRES.out]; exact HO.out, HB.out⟩
set_option maxHeartbeats 2000000 in
theorem implRed_no (N : Int) (A : Option Addr) (c : Nat) (es : List (Int × Int)) (v : Int) (w : World) (hn : es.length ≤ 1048576) (h : graphB N es = false ∨ (graphB N es = true ∧ vB v N = false)) (hE : EdgeS w w.heap.size A es) :
    Calls Try.prog 132 #[.agg #[.int .i64 N, .slice A es.length c], .int .i64 v] w (GivesSSC w []) := by
  have HE := Lib.hid hE
  clear hE
  have hb0 : Below w.heap.size w (w.alloc (Obj.cells #[.int .i64 N, .slice A es.length c] 25)) := (Below.refl _ _).alloc (Nat.le_refl _) _
  rcases h with hB | ⟨hB, hv⟩
  · go_enter Try.func132, Try.ntmps132
    go_wp2_with fail
    refine (implGraphOk _ _ _ _ _ hn (HE.out.up_ hb0)).mono ?_
    rintro e w1 ⟨rfl, hb1⟩
    have hbb : Below w.heap.size w w1 := hb0.trans (hb1.mono hb0.size)
    clear hb0 hb1
    go_wp2
    go_ret
    exact ⟨none, 0, rfl, Nat.zero_le _, OwnSS.nil _ _ _ _, hbb⟩
  · go_enter Try.func132, Try.ntmps132
    go_wp2_with fail
    refine (implGraphOk _ _ _ _ _ hn (HE.out.up_ hb0)).mono ?_
    rintro e w1 ⟨rfl, hb1⟩
    have hbb : Below w.heap.size w w1 := hb0.trans (hb1.mono hb0.size)
    have hx1 := (Blk.new w 25 #[.int .i64 N, .slice A es.length c]).below hb1 (by simp)
    have c0 : w1.cell? ⟨w.heap.size, 0, none⟩ = some (.int .i64 N) := by rw [hx1.cell]; rfl
    have c1 : w1.cell? ⟨w.heap.size, 1, none⟩ = some (.slice A es.length c) := by rw [hx1.cell]; rfl
    clear hb0 hb1 hx1
    go_wp2_with fail
    refine (hasVertex_any _ _ _ _ ⟨_, _, _, rfl⟩).mono ?_
    rintro e w2 ⟨rfl, hb2⟩
    have hb3 : Below w.heap.size w w2 := hbb.trans (hb2.mono hbb.size)
    go_wp2
    go_ret
    exact ⟨none, 0, rfl, Nat.zero_le _, OwnSS.nil _ _ _ _, hb3⟩
theorem implRlpC (N : Int) (A : Option Addr) (c : Nat) (es : List (Int × Int)) (q : Int) (w : World) (hn : es.length ≤ 1048576) (hE : EdgeS w w.heap.size A es) :
    Calls Try.prog 132 #[.agg #[.int .i64 N, .slice A es.length c], .int .i64 q] w (GivesSSC w (redB N es q)) := by
  cases h : graphB N es with
  | false => rw [redB_f (.inl h)]; exact implRed_no N A c es q w hn (.inl h) hE
  | true =>
    cases h2 : vB q N with
    | false => rw [redB_f (.inr h2)]; exact implRed_no N A c es q w hn (.inr ⟨h, h2⟩) hE
    | true =>
      rw [redB_t h h2]
      have h1 := edgesB_lims (graphB_all h).1
      have h3 := vB_iff h2
      obtain ⟨M, rfl⟩ : ∃ M : Nat, N = (M : Int) := ⟨N.toNat, by omega⟩
      obtain ⟨k, rfl⟩ : ∃ k : Nat, q = (k : Int) := ⟨q.toNat, by omega⟩
      rw [Int.toNat_natCast, Int.toNat_natCast]
      exact implRed_yes M k A c es w h (by omega) hE
theorem implRlp (N : Int) (A : Option Addr) (c : Nat) (es : List (Int × Int)) (q : Int) (w : World) (hn : es.length ≤ 1048576) (hE : EdgeS w w.heap.size A es) :
    Calls Try.prog 132 #[.agg #[.int .i64 N, .slice A es.length c], .int .i64 q] w (GivesSS w (redB N es q)) := (implRlpC N A c es q w hn hE).mono fun _ _ h => h.plain
end Go.Proofs.Ytdpojcgeblbfeaa

/- CountTrees: both sides. -/
namespace Go.Proofs.Ytdpojcgeblbfeaa
open Go.RowKit

noncomputable def treesB (N : Int) (es : List (Int × Int)) : Int := if graphB N es = true then detB (redB N es 0) else 0
theorem treesB_t {N : Int} {es : List (Int × Int)} (h : graphB N es = true) : treesB N es = detB (redB N es 0) := by rw [treesB, if_pos h]
theorem treesB_f {N : Int} {es : List (Int × Int)} (h : graphB N es = false) : treesB N es = 0 := by rw [treesB, if_neg (by rw [h]; decide)]
set_option maxHeartbeats 1000000 in
theorem specTrees (N : Int) (A : Option Addr) (c : Nat) (es : List (Int × Int)) (w : World) (hn : es.length ≤ 1048576) (hE : EdgeS w w.heap.size A es) :
    Calls Try.prog 83 #[.agg #[.int .i64 N, .slice A es.length c]] w fun e w' => e = .returned (.int .i64 (treesB N es)) ∧ Below w.heap.size w w' := by
  have HE := Lib.hid hE
  clear hE
  have hb0 : Below w.heap.size w (w.alloc (Obj.cells #[.int .i64 N, .slice A es.length c] 25)) := (Below.refl _ _).alloc (Nat.le_refl _) _
  have HG := fun w h => Lib.hid (specGraphOk N A c es w (by omega) h)
  cases hB : graphB N es with
  | false =>
    rw [hB] at HG
    rw [treesB_f hB]
    clear hB
    go_enter Try.func83, Try.ntmps83
    go_wp2_with fail
    refine (HG _ (HE.out.up_ hb0)).out.mono ?_
    rintro e w1 ⟨rfl, hb1⟩
    have hbb : Below w.heap.size w w1 := hb0.trans (hb1.mono hb0.size)
    clear hb0 hb1
    go_wp2
    go_ret
    exact ⟨rfl, hbb⟩
  | true =>
    rw [hB] at HG
    rw [treesB_t hB]
    have HR := fun w h => Lib.hid (specRlp N A c es 0 w hn h)
    obtain ⟨hr6, hrl⟩ := redB_len (N := N) (es := es) (q := 0)
    obtain ⟨rs, hrs⟩ : ∃ rs, rs = redB N es 0 := ⟨_, rfl⟩
    rw [← hrs] at HR hr6 hrl ⊢
    have HD := fun A c w h => Lib.hid (specDet A c rs w (by omega) (fun r hr => by have := hrl r hr; omega) h)
    clear hB hrs hrl
    go_enter Try.func83, Try.ntmps83
    go_wp2_with fail
    refine (HG _ (HE.out.up_ hb0)).out.mono ?_
    rintro e w1 ⟨rfl, hb1⟩
    have hbb : Below w.heap.size w w1 := hb0.trans (hb1.mono hb0.size)
    have hx1 := (Blk.new w 25 #[.int .i64 N, .slice A es.length c]).below hb1 (by simp)
    have k0 : w1.cell? ⟨w.heap.size, 0, none⟩ = some (.int .i64 N) := by rw [hx1.cell]; rfl
    have k1 : w1.cell? ⟨w.heap.size, 1, none⟩ = some (.slice A es.length c) := by rw [hx1.cell]; rfl
    clear hb0 hb1 hx1
    go_wp2_with fail
    refine (HR _ (HE.out.up_ hbb)).out.mono ?_
    rintro e w2 ⟨A2, c2, rfl, hr2, hb2⟩
    have hb3 := hbb.trans (hb2.mono hbb.size)
    have HR2 := Lib.hid hr2
    clear hr2 hb2 hbb k0 k1
    go_wp2_with fail
    refine (HD _ _ _ HR2.out).out.mono ?_
    rintro e w3 ⟨rfl, hb4⟩
    have hb5 := hb3.trans (hb4.mono hb3.size)
    go_wp2
    go_ret
    exact ⟨rfl, hb5⟩
set_option maxHeartbeats 1000000 in
theorem implTrees (N : Int) (A : Option Addr) (c : Nat) (es : List (Int × Int)) (w : World) (hn : es.length ≤ 1048576) (hE : EdgeS w w.heap.size A es) :
    Calls Try.prog 85 #[.agg #[.int .i64 N, .slice A es.length c]] w fun e w' => e = .returned (.int .i64 (treesB N es)) ∧ Below w.heap.size w w' := by
  have HE := Lib.hid hE
  clear hE
  have hb0 : Below w.heap.size w (w.alloc (Obj.cells #[.int .i64 N, .slice A es.length c] 25)) := (Below.refl _ _).alloc (Nat.le_refl _) _
  have HG := fun w h => Lib.hid (implGraphOk N A c es w hn h)
  cases hB : graphB N es with
  | false =>
    rw [hB] at HG
    rw [treesB_f hB]
    clear hB
    go_enter Try.func85, Try.ntmps85
    go_wp2_with fail
    refine (HG _ (HE.out.up_ hb0)).out.mono ?_
    rintro e w1 ⟨rfl, hb1⟩
    have hbb : Below w.heap.size w w1 := hb0.trans (hb1.mono hb0.size)
    clear hb0 hb1
    go_wp2
    go_ret
    exact ⟨rfl, hbb⟩
  | true =>
    rw [hB] at HG
    rw [treesB_t hB]
    have HR := fun w h => Lib.hid (implRlp N A c es 0 w hn h)
    obtain ⟨hr6, hrl⟩ := redB_len (N := N) (es := es) (q := 0)
    obtain ⟨rs, hrs⟩ : ∃ rs, rs = redB N es 0 := ⟨_, rfl⟩
    rw [← hrs] at HR hr6 hrl ⊢
    have HD := fun A c w h => Lib.hid (implDet A c rs w (by omega) (fun r hr => by have := hrl r hr; omega) h)
    clear hB hrs hrl
    go_enter Try.func85, Try.ntmps85
    go_wp2_with fail
    refine (HG _ (HE.out.up_ hb0)).out.mono ?_
    rintro e w1 ⟨rfl, hb1⟩
    have hbb : Below w.heap.size w w1 := hb0.trans (hb1.mono hb0.size)
    have hx1 := (Blk.new w 25 #[.int .i64 N, .slice A es.length c]).below hb1 (by simp)
    have k0 : w1.cell? ⟨w.heap.size, 0, none⟩ = some (.int .i64 N) := by rw [hx1.cell]; rfl
    have k1 : w1.cell? ⟨w.heap.size, 1, none⟩ = some (.slice A es.length c) := by rw [hx1.cell]; rfl
    clear hb0 hb1 hx1
    go_wp2_with fail
    refine (HR _ (HE.out.up_ hbb)).out.mono ?_
    rintro e w2 ⟨A2, c2, rfl, hr2, hb2⟩
    have hb3 := hbb.trans (hb2.mono hbb.size)
    have HR2 := Lib.hid hr2.ints
    clear hr2 hb2 hbb k0 k1
    go_wp2_with fail
    refine (HD _ _ _ HR2.out).out.mono ?_
    rintro e w3 ⟨rfl, hb4⟩
    have hb5 := hb3.trans (hb4.mono hb3.size)
    go_wp2
    go_ret
    exact ⟨rfl, hb5⟩
end Go.Proofs.Ytdpojcgeblbfeaa

/- The specification's sets of numbers. -/
namespace Go.Proofs.Ytdpojcgeblbfeaa
open Go.RowKit

theorem SSOwnV.cell {w : World} {base : Nat} {v : Value} {vs : List Value} {rs : List (List Int)} (h : SSOwnV w base v vs rs) {a : Nat} {u : Value} (hu : vs[a]? = some u) :
    ∃ (g cap : Nat), v = .slice (some ⟨g, 0, none⟩) rs.length cap ∧ g < w.heap.size ∧ w.cell? ⟨g, a, none⟩ = some u := by
  obtain ⟨h1, _⟩ := h
  have ha : a < vs.length := (List.getElem?_eq_some_iff.1 hu).1
  have hl := h1.1
  rcases h1.2 with ⟨_, e0⟩ | ⟨g, cap, cur, e, hb, hg, hnc, _, hcs, htk⟩
  · omega
  · have hob : v.ownBlock = some g := by rw [e]; rfl
    have hc := h1.cells hob a u hu
    rw [Addr.add_lit, Nat.zero_add] at hc
    exact ⟨g, cap, e, (h1.lt g hob).2, hc⟩
theorem SSOwnV.ints {w : World} {base b n c : Nat} {v : Value} {vs : List Value} {rs : List (List Int)} (h : SSOwnV w base v vs rs) {a : Nat} {r : List Int} (hr : rs[a]? = some r) (hu : vs[a]? = some (.slice (some ⟨b, 0, none⟩) n c)) :
    ∀ (i : Nat) (x : Int), r[i]? = some x → w.cell? ⟨b, i, none⟩ = some (.int .i64 x) := fun i x hx => by
  obtain ⟨u, hu2, hq⟩ := h.2 a r hr
  rw [hu] at hu2
  injection hu2 with hu2
  subst hu2
  have := World.ownsRow.cells hq rfl i (.int .i64 x) (by simp [intCells, hx])
  rwa [Addr.add_lit, Nat.zero_add] at this
theorem SSOwnV.lt {w : World} {base b n c : Nat} {v : Value} {vs : List Value} {rs : List (List Int)} (h : SSOwnV w base v vs rs) {a : Nat} {r : List Int} (hr : rs[a]? = some r) (hu : vs[a]? = some (.slice (some ⟨b, 0, none⟩) n c)) : b < w.heap.size := by
  obtain ⟨u, hu2, hq⟩ := h.2 a r hr
  rw [hu] at hu2
  injection hu2 with hu2
  subst hu2
  exact (World.ownsRow.lt hq b rfl).2
def Pointed (u : Value) (n : Nat) : Prop := ∃ b c : Nat, u = .slice (some ⟨b, 0, none⟩) n c ∧ n ≤ c
def GivesSets (w : World) (rs : List (List Int)) (e : Ending) (w' : World) : Prop :=
  ∃ (v : Value) (vs : List Value), e = .returned v ∧ SSOwnV w' w.heap.size v vs rs ∧ (∀ (i : Nat) (r : List Int), rs[i]? = some r → ∃ u, vs[i]? = some u ∧ Pointed u r.length) ∧ Below w.heap.size w w'
theorem own_pointed {w : World} {base : Nat} {u : Value} {r : List Int} (h : QOwn w base u r) (hr : 0 < r.length) : Pointed u r.length := by
  rcases h.2 with ⟨_, e0⟩ | ⟨g, cap, cur, e, _, _, hnc, _⟩
  · omega
  · exact ⟨g, cap, e, hnc⟩
theorem sets_below {wr w1 w2 : World} {v1 : Value} {n j : Nat} {xs : List Value} (h1 : World.grownBy (wr.alloc (Obj.cells #[] 3)) w1 (some wr.heap.size)) (o1 : w1.ownsRow wr.heap.size 3 1 v1 n xs)
    (h2 : World.grownBy (w1.alloc (Obj.cells #[.int .i64 (j : Int)] 3)) w2 v1.ownBlock) : Below wr.heap.size wr w2 := by
  have bA : Below wr.heap.size wr (wr.alloc (Obj.cells #[] 3)) := (Below.refl _ _).alloc (Nat.le_refl _) _
  have bB : Below wr.heap.size wr w1 := bA.trans (grown_below h1 (by simp) (fun k e => by injection e with e; omega))
  have bC : Below wr.heap.size wr (w1.alloc (Obj.cells #[.int .i64 (j : Int)] 3)) := bB.alloc bB.size _
  exact bC.trans (grown_below h2 bC.size (fun k e => (o1.lt k e).1))
theorem sets_own {w : World} {base k j : Nat} {v : Value} {s : List Nat} (hs : s.length = k) (h : w.ownsRow base 3 1 v (k + 1) (intCells (natI s) ++ [.int .i64 (j : Int)])) : QOwn w base v (natI (s ++ [j])) := by
  have e1 : intCells (natI s) ++ [.int .i64 (j : Int)] = intCells (natI (s ++ [j])) := by simp [intCells, natI]
  have e2 : k + 1 = (natI (s ++ [j])).length := by simp [natI, hs]
  rw [e1, e2] at h
  exact h
def setsTo (n k a : Nat) : List (List Int) := ((setsB n k).take a).flatMap fun s => (List.range' (behind s) (n - behind s)).map fun i => natI (s ++ [i])
theorem setsTo_all (n k : Nat) : setsTo n k (setsB n k).length = (setsB n (k + 1)).map natI := by
  rw [setsTo, List.take_length, setsB, List.map_flatMap]
  simp [List.map_map, Function.comp_def]
theorem setsTo_step {n k a : Nat} {s : List Nat} (h : (setsB n k)[a]? = some s) : setsTo n k (a + 1) = setsTo n k a ++ (List.range' (behind s) (n - behind s)).map fun i => natI (s ++ [i]) := by
  rw [setsTo, List.take_add_one, h, Option.toList_some, List.flatMap_append, setsTo]
  simp
theorem sets_pos12 : ∀ n, n ≤ 12 → ∀ k, k ≤ 5 → k ≤ n → 0 < (setsB n k).length := by decide +kernel
theorem sets_size12 : ∀ n, n ≤ 12 → ∀ k, k ≤ 5 → (setsB n k).length ≤ 792 ∧ ∀ s ∈ setsB n k, s.length = k ∧ (∀ i ∈ s, i < n) ∧ behind s ≤ n := by decide +kernel
theorem setsTo_le {n k a : Nat} (hn : n ≤ 12) (hk : k + 1 ≤ 5) : (setsTo n k a).length ≤ 792 := by
  have h1 := (sets_size12 n hn (k + 1) hk).1
  have h2 : (setsTo n k a).length ≤ ((setsB n (k + 1)).map natI).length := by
    rw [← setsTo_all n k, setsTo, setsTo, List.take_length, List.length_flatMap, List.length_flatMap]
    have : setsB n k = (setsB n k).take a ++ (setsB n k).drop a := (List.take_append_drop _ _).symm
    conv => rhs; rw [this, List.map_append, List.sum_append]
    exact Nat.le_add_right _ _
  rw [List.length_map] at h2
  omega
theorem part_le {n k a f j : Nat} {s : List Nat} (hn : n ≤ 12) (hk : k + 1 ≤ 5) (h : (setsB n k)[a]? = some s) (hf : f = behind s) (hj : j < n) : (setsTo n k a ++ (List.range' f (j - f)).map fun i => natI (s ++ [i])).length ≤ 792 := by
  have h1 := setsTo_le (a := a + 1) hn hk
  rw [setsTo_step h, List.length_append, List.length_map, List.length_range'] at h1
  rw [List.length_append, List.length_map, List.length_range', hf]
  omega
theorem part_push {f j : Nat} (s : List Nat) (dn : List (List Int)) (h : f ≤ j) : (dn ++ (List.range' f (j - f)).map fun i => natI (s ++ [i])) ++ [natI (s ++ [j])] = dn ++ (List.range' f (j + 1 - f)).map fun i => natI (s ++ [i]) := by
  have e : j + 1 - f = (j - f) + 1 := by omega
  rw [e, List.range'_concat, List.map_append, List.append_assoc]
  have e2 : f + 1 * (j - f) = j := by omega
  rw [e2]
  rfl

set_option maxRecDepth 100000 in
set_option maxHeartbeats 4000000 in
theorem setsW_any (n : Nat) (hn : n ≤ 12) : ∀ (k : Nat), k ≤ n → k ≤ 5 → ∀ w : World, Calls Try.prog 84 #[.int .i64 (n : Int), .int .i64 (k : Int)] w (GivesSets w ((setsB n k).map natI)) := by
  obtain ⟨i0, hi, hz0, hz1, hz2⟩ := info_parts intInfo
  obtain ⟨i1, hj, hy0, hy1, hy2⟩ := info_parts rowsInfo
  intro k
  induction k with
  | zero =>
    intro _ _ w
    have H : GivesSets w ((setsB n 0).map natI) (.returned (.slice (some ⟨w.heap.size + 1, 0, none⟩) 1 1)) ((w.alloc (Obj.cells #[] 3)).alloc (Obj.cells #[.slice (some ⟨w.heap.size, 0, none⟩) 0 0] 28)) := by
      refine ⟨_, [.slice (some ⟨w.heap.size, 0, none⟩) 0 0], rfl, ⟨⟨rfl, .inr ⟨w.heap.size + 1, 1, #[.slice (some ⟨w.heap.size, 0, none⟩) 0 0], rfl, Nat.le_succ _, ?_, Nat.le_refl _, by unfold maxLen; omega, rfl, rfl⟩⟩, ?_⟩, ?_, ?_⟩
      · have := heap_alloc_new (w.alloc (Obj.cells #[] 3)) (Obj.cells #[.slice (some ⟨w.heap.size, 0, none⟩) 0 0] 28)
        simpa using this
      · intro i r hr
        have h0 : i = 0 ∧ r = [] := by
          cases i with
          | zero => simp [setsB, natI] at hr; exact ⟨rfl, hr⟩
          | succ i => simp [setsB] at hr
        obtain ⟨rfl, rfl⟩ := h0
        exact ⟨_, rfl, World.ownsRow.alloc (own_emptyD w _ (Nat.le_refl _) _) _⟩
      · intro i r hr
        have h0 : i = 0 ∧ r = [] := by
          cases i with
          | zero => simp [setsB, natI] at hr; exact ⟨rfl, hr⟩
          | succ i => simp [setsB] at hr
        obtain ⟨rfl, rfl⟩ := h0
        exact ⟨_, rfl, _, 0, rfl, Nat.le_refl _⟩
      · exact ((Below.refl _ _).alloc (Nat.le_refl _) _).alloc (by simp) _
    have HH := Lib.hid H
    clear H
    go_enter Try.func84, Try.ntmps84
    go_wp2
    go_ret
    exact HH.out
  | succ k ih =>
    intro hkn hk5 w
    have hk6 : k + 1 ≤ 5 := hk5
    have IH := fun w => Lib.hid (ih (by omega) (by omega) w)
    have HPOS := Lib.hid (sets_pos12 n hn k (by omega) (by omega))
    have HALL := Lib.hid (setsTo_all n k)
    have HSIZ := Lib.hid (sets_size12 n hn k (by omega))
    have HSTEP := Lib.hid (fun a s h => setsTo_step (n := n) (k := k) (a := a) (s := s) h)
    have HPART := Lib.hid (fun a s f j h hf hj => part_le (n := n) (k := k) (a := a) (f := f) (j := j) (s := s) hn hk6 h hf hj)
    have HTO := Lib.hid (show setsTo n k 0 = [] by simp [setsTo])
    obtain ⟨T, hT⟩ : ∃ T : Nat → List (List Int), T = setsTo n k := ⟨_, rfl⟩
    rw [← hT] at HALL HSTEP HPART HTO
    obtain ⟨SS, hSS⟩ : ∃ SS, SS = setsB n k := ⟨_, rfl⟩
    rw [← hSS] at IH HPOS HALL HSIZ HSTEP HPART
    obtain ⟨L, hL⟩ : ∃ L, L = SS.map natI := ⟨_, rfl⟩
    have hLL : L.length = SS.length := by rw [hL, List.length_map]
    have HLT := Lib.hid (fun a (s : List Nat) (h : SS[a]? = some s) => show L[a]? = some (natI s) by rw [hL, List.getElem?_map, h]; rfl)
    rw [← hL] at IH
    obtain ⟨K, hK⟩ : ∃ K, K = SS.length := ⟨_, rfl⟩
    rw [← hK] at hLL HPOS HALL HSIZ
    have HLL := Lib.hid hLL
    have HK := Lib.hid hK
    have hpos := HPOS.out
    have hsiz := HSIZ.out.1
    have t0 : (((k + 1 : Nat) : Int) == 0) = false := by simp; omega
    have tk : ((k + 1 : Nat) : Int) - 1 = (k : Int) := by omega
    have tk2 : IntKind.i64.wrap (k : Int) = (k : Int) := by rw [IntKind.wrap_i64]; omega
    have hk0 : (0 : Int) ≤ (k : Int) := Int.natCast_nonneg _
    have hk1 : (k : Int) ≤ 12 := by omega
    clear ih hT hSS hL hK hLL
    go_enter Try.func84, Try.ntmps84
    go_wp2_with fail
    refine (IH _).out.mono ?_
    rintro e w2 ⟨vL, vsL, rfl, hsV, hpt, hb3⟩
    obtain ⟨s0, hs0⟩ : ∃ s, SS[0]? = some s := ⟨_, List.getElem?_eq_getElem (by have := HK.out; omega)⟩
    obtain ⟨u0, hu0, x0, cx0, rfl, _⟩ := hpt 0 _ (HLT.out 0 s0 hs0)
    obtain ⟨gL, capL, rfl, hgL2, hcL⟩ := hsV.cell hu0
    have hx0 := hsV.lt (HLT.out 0 s0 hs0) hu0
    have hgL1 := (hsV.1.lt gL rfl).1
    rw [HLL.out]
    have HSL := Lib.hid hsV
    have HCL := Lib.hid hcL
    have HPT := Lib.hid hpt
    have hb2 : Below w.heap.size w (w.alloc (Obj.cells #[] 28)) := (Below.refl _ _).alloc (Nat.le_refl _) _
    have HB3 := Lib.hid (hb2.trans (hb3.mono hb2.size))
    have hs3 := hb3.size
    have HG0 : Hid (Blk w2 w.heap.size 28 #[]) := Lib.hid ((Blk.new w _ _).below hb3 (by simp))
    obtain ⟨lo, hlo⟩ : ∃ lo, lo = (w.alloc (Obj.cells #[] 28)).heap.size := ⟨_, rfl⟩
    have hw1 : w.heap.size < lo := by rw [hlo]; simp
    rw [← hlo] at HSL hs3 hgL1
    have hrow : w2.ownsRow w.heap.size 28 1 (.slice (some ⟨w.heap.size, 0, none⟩) 0 0) 0 [] := ⟨rfl, .inr ⟨w.heap.size, 0, #[], rfl, Nat.le_refl _, HG0.out, Nat.le_refl _, Nat.zero_le _, rfl, rfl⟩⟩
    have HROW := Lib.hid hrow
    obtain ⟨m0, hm0⟩ : ∃ m0, m0 = (natI s0).length := ⟨_, rfl⟩
    rw [← hm0] at HCL
    clear hs0 hu0 hsV hcL hpt hb2 hb3 hlo hrow HG0 hm0
    go_wp2_with fail
    go_loopw [5, 20] (fun v i wr => ∃ a : Nat, a ≤ K ∧ i = .int .i64 a ∧ SSOwn2 wr w.heap.size w2.heap.size v (T a) ∧ v.ownBlock ≠ some gL ∧ SSOwnV wr lo (.slice (some ⟨gL, 0, none⟩) L.length capL) vsL L ∧ wr.cell? ⟨gL, 0, none⟩ = some (.slice (some ⟨x0, 0, none⟩) m0 cx0) ∧ Below w.heap.size w wr ∧ w2.heap.size ≤ wr.heap.size) (fun _ i _ => K - (intOf i).toNat)
    case atStart =>
      refine ⟨0, Nat.zero_le _, rfl, ⟨[], by rw [HTO.out]; exact HROW.out, fun i r h => by rw [HTO.out] at h; simp at h⟩, ?_, HSL.out, HCL.out, HB3.out, Nat.le_refl _⟩
      simp only [Value.ownBlock, ne_eq, Option.some.injEq]
      omega
    case round =>
      obtain ⟨a, ha, rfl, hso, hne, hsl, hcl, hb, hsz⟩ := hrel
      have HSO := Lib.hid hso
      have HSLr := Lib.hid hsl
      have HCLr := Lib.hid hcl
      have HNE := Lib.hid hne
      have HB := Lib.hid hb
      clear hso hsl hcl hne hb
      by_cases hlt : a < K
      · obtain ⟨s, hs⟩ : ∃ s, SS[a]? = some s := ⟨_, List.getElem?_eq_getElem (by have := HK.out; omega)⟩
        obtain ⟨ua, hua, b, cb, rfl, hcb⟩ := HPT.out a _ (HLT.out a s hs)
        obtain ⟨gL', capL', hv, hgl, hcell⟩ := HSLr.out.cell hua
        injection hv with hv1 _ hv3
        injection hv1 with hv1
        injection hv1 with hv1
        subst hv1
        obtain ⟨hsn, hsi, hsb⟩ := HSIZ.out.2 s (List.mem_of_getElem? hs)
        rw [natI_len, hsn] at hcell hcb hua
        have HSN := Lib.hid hsn
        have HVA := Lib.hid hua
        have HLA := Lib.hid (HLT.out a s hs)
        have hbl := HSLr.out.lt HLA.out hua
        have ha0 : (0 : Int) ≤ (a : Int) := Int.natCast_nonneg _
        have ha1 : (a : Int) < (K : Int) := by omega
        have HDN0 := Lib.hid (HSTEP.out a s hs)
        have HPT0 := Lib.hid (fun j => HPART.out a s (behind s) j hs rfl)
        obtain ⟨f, hf⟩ : ∃ f, f = behind s := ⟨_, rfl⟩
        obtain ⟨dn, hdn⟩ : ∃ dn, dn = T a := ⟨_, rfl⟩
        have HDN : Hid (T (a + 1) = dn ++ (List.range' f (n - f)).map fun i => natI (s ++ [i])) := Lib.hid (by rw [hdn, hf]; exact HDN0.out)
        have hfn : f ≤ n := by omega
        have PUSH := Lib.hid (fun j h => part_push (f := f) (j := j) s dn h)
        have PLEN : Hid (∀ j, j < n → (dn ++ (List.range' f (j - f)).map fun i => natI (s ++ [i])).length ≤ 792) := Lib.hid (fun j hj => by
          rw [hdn, hf]
          have h := HPART.out a s (behind s) j hs rfl hj
          exact h)
        rw [← hdn] at HSO
        have HLAST : Hid (∀ (i : Nat) (x : Nat), s[i]? = some x → wr.cell? ⟨b, i, none⟩ = some (.int .i64 (x : Int))) := Lib.hid (fun i x hx => HSLr.out.ints HLA.out hua i _ (natI_at hx))
        clear hs hua hv3 hsn hsi hsb HDN0 HPT0 hdn hcb
        by_cases hkz : k = 0
        · have hfz : f = 0 := by
            have hsz0 : s = [] := List.length_eq_zero_iff.1 (by rw [HSN.out]; exact hkz)
            rw [hf, hsz0]
            rfl
          have HFX := Lib.hid hfz
          have hkk0 : (k : Int) ≤ 0 := by omega
          clear hf hfz hkz
          go_wp2_with fail
          go_loopw [5, 9] (fun v i wr => ∃ j : Nat, f ≤ j ∧ j ≤ n ∧ i = .int .i64 j ∧ SSOwn2 wr w.heap.size w2.heap.size v (dn ++ (List.range' f (j - f)).map fun i => natI (s ++ [i])) ∧ v.ownBlock ≠ some gL ∧ SSOwnV wr lo (.slice (some ⟨gL, 0, none⟩) L.length capL) vsL L ∧ wr.cell? ⟨gL, 0, none⟩ = some (.slice (some ⟨x0, 0, none⟩) m0 cx0) ∧ Below w.heap.size w wr ∧ w2.heap.size ≤ wr.heap.size) (fun _ i _ => n - (intOf i).toNat)
          case atStart => exact ⟨f, Nat.le_refl _, hfn, by rw [HFX.out]; go_num, by rw [Nat.sub_self]; simpa using HSO.out, HNE.out, HSLr.out, HCLr.out, HB.out, hsz⟩
          case round =>
            obtain ⟨j, hj0, hjn, rfl, hso, hne, hsl, hcl, hb, hsz⟩ := hrel
            have HSO3 := Lib.hid hso
            have HSL3 := Lib.hid hsl
            have HCL3 := Lib.hid hcl
            have HNE3 := Lib.hid hne
            have HB3 := Lib.hid hb
            clear hso hsl hcl hne hb
            by_cases hlt2 : j < n
            · have hji0 : (0 : Int) ≤ (j : Int) := Int.natCast_nonneg _
              have hji1 : (j : Int) < (n : Int) := by omega
              obtain ⟨gL', capL', hv, hgl, hcell⟩ := HSL3.out.cell (HVA.out)
              injection hv with hv1 _ hv3
              injection hv1 with hv1
              injection hv1 with hv1
              subst hv1
              have hcells := HSL3.out.ints HLA.out HVA.out
              have hbl := HSL3.out.lt HLA.out HVA.out
              have HCS := Lib.hid hcells
              have HPL := Lib.hid (PLEN.out j hlt2)
              have HPU := Lib.hid (PUSH.out j hj0)
              obtain ⟨rs, hrs⟩ : ∃ rs, rs = dn ++ (List.range' f (j - f)).map fun i => natI (s ++ [i]) := ⟨_, rfl⟩
              rw [← hrs] at HPL HPU HSO3
              have hcl := HPL.out
              obtain ⟨vs, hvs1, hvs2⟩ := HSO3.out
              have hO1 := own_emptyD wr wr.heap.size (Nat.le_refl _) 3
              have hbA : Below wr.heap.size wr (wr.alloc (Obj.cells #[] 3)) := (Below.refl _ _).alloc (Nat.le_refl _) _
              have hn1 : ∀ (i : Nat) (u : Value), (intCells (natI s))[i]? = some u → (wr.alloc (Obj.cells #[] 3)).cell? ((⟨b, 0, none⟩ : Addr).add i) = some u := fun i u hu => by
                simp only [intCells, List.getElem?_map, Option.map_eq_some_iff] at hu
                obtain ⟨z, hz, rfl⟩ := hu
                rw [Addr.add_lit, Nat.zero_add]
                exact (hbA.cell (p := ⟨b, i, none⟩) (by simp only; omega)).trans (HCS.out i z hz)
              have g1 : (intCells (natI s)).length = k * 1 := by simp [intCells, natI, HSN.out]
              have g2 : ∀ u ∈ intCells (natI s), u.oneCell' = true := fun u hu => by
                simp only [intCells, List.mem_map] at hu
                obtain ⟨z, _, rfl⟩ := hu
                rfl
              have g3 : 0 + k ≤ maxLen := by unfold maxLen; omega
              have g4 : (0 + k) * 8 ≤ 140737488355328 := by omega
              have g5 : wr.heap.size ≤ (wr.alloc (Obj.cells #[] 3)).heap.size := by simp
              have g6 : k + 1 ≤ maxLen := by unfold maxLen; omega
              have g7 : (k + 1) * 8 ≤ 140737488355328 := by omega
              have n3 : rs.length + 1 ≤ maxLen := by unfold maxLen; omega
              have n4 : (rs.length + 1) * 24 ≤ 140737488355328 := by omega
              have STEP : Hid (∀ (v1 : Value) (w1 : World) (v2 : Value) (w2 : World), w1.ownsRow wr.heap.size 3 1 v1 k (intCells (natI s)) → World.grownBy (wr.alloc (Obj.cells #[] 3)) w1 (some wr.heap.size) →
                  w2.ownsRow wr.heap.size 3 1 v2 (k + 1) (intCells (natI s) ++ [.int .i64 (j : Int)]) → World.grownBy (w1.alloc (Obj.cells #[.int .i64 (j : Int)] 3)) w2 v1.ownBlock → _) := Lib.hid (fun v1 w1' v2 w2' o1 h1 o2 h2 =>
                    push_step HB3.out hsz hvs1 hvs2 HNE3.out HSL3.out (gL := gL) rfl HCL3.out hx0 (sets_below h1 o1 h2) (sets_own HSN.out o2))
              have HO1 := Lib.hid hO1
              have HN1 := Lib.hid hn1
              have G1 := Lib.hid g1
              have G2 := Lib.hid g2
              clear hO1 hn1 g1 g2 hbA hvs1 hvs2 hrs hcells hv3
              go_wp2_with (at_builtin; refine wpList_append_own _ rfl _ _ 28 rfl wr.heap.size 3 i0 (.int .i64 0) 1 8 Try.underlying28 hi hz0 hz1 hz2 rfl (by decide) _ _ _ rfl HO1.out ⟨b, 0, none⟩ k _ (intCells (natI s)) rfl G1.out HN1.out G2.out g3 g4 g5 ?_)
              intro v1 w3 hown1 hgrow1 _
              have hg1 : World.grownBy (wr.alloc (Obj.cells #[] 3)) w3 (some wr.heap.size) := hgrow1
              have hs1 : wr.heap.size ≤ (w3.alloc (Obj.cells #[.int .i64 (j : Int)] 3)).heap.size := by have := hg1.size; simp at this ⊢; omega
              have HW1 := Lib.hid hown1
              have HG1 := Lib.hid hg1
              clear hown1 hgrow1 hg1
              go_wp2_with (at_builtin; refine wpList_append_own _ rfl _ _ 28 rfl wr.heap.size 3 i0 (.int .i64 0) 1 8 Try.underlying28 hi hz0 hz1 hz2 rfl (by decide) _ _ _ rfl (HW1.out.alloc _) ⟨w3.heap.size, 0, none⟩ 1 1 [.int .i64 (j : Int)] rfl rfl (one_cell _ _ rfl _ _) (fun u hu => by rw [List.mem_singleton] at hu; rw [hu]; rfl) g6 g7 hs1 ?_)
              intro v2 w4 hown2 hgrow2 _
              obtain ⟨hq1, hq2, hq3⟩ := STEP.out v1 w3 v2 w4 HW1.out HG1.out hown2 hgrow2
              obtain ⟨A2, m2, c2, rfl⟩ := own_sl hown2
              have HQ1 := Lib.hid hq1
              have HQ3 := Lib.hid hq3
              clear hq1 hq3 hown2 hgrow2 HW1 HG1 hs1
              go_wp2_with (at_builtin; refine wpList_append_own _ rfl _ _ 41 rfl w.heap.size 28 i1 (.slice none 0 0) 1 24 Try.underlying41 hj hy0 hy1 hy2 rfl (by decide) _ _ _ rfl HQ1.out ⟨w4.heap.size, 0, none⟩ 1 1 [_] rfl rfl (one_cell _ _ rfl _ _) (fun u hu => by rw [List.mem_singleton] at hu; rw [hu]; rfl) n3 n4 hq2 ?_)
              intro v3 w5 hown3 hgrow3 _
              have HF := Lib.hid (HQ3.out w5 v3 hown3 hgrow3)
              clear hown3 hgrow3 HQ3 HQ1
              obtain ⟨f1, f2, f3, f4, f5, f6⟩ := HF.out
              rw [HPU.out] at f1
              have F1 := Lib.hid f1
              have F2 := Lib.hid f2
              have F3 := Lib.hid f3
              have F4 := Lib.hid f4
              have F6 := Lib.hid f6
              clear f1 f2 f3 f4 f6 HF
              go_wp2
              exact ⟨⟨j + 1, by omega, by omega, by go_num, F1.out, F2.out, F3.out, F6.out, F4.out, f5⟩, by simp [intOf]; omega⟩
            · have hso := HSO3.out
              rw [show j = n by omega, ← HDN.out] at hso
              have HSO4 := Lib.hid hso
              clear hso
              go_wp2
              exact ⟨⟨a + 1, by omega, by go_num, HSO4.out, HNE3.out, HSL3.out, HCL3.out, HB3.out, hsz⟩, by simp [intOf]; omega⟩
        · obtain ⟨x, hx⟩ : ∃ x, s[k - 1]? = some x := ⟨_, List.getElem?_eq_getElem (by rw [HSN.out]; omega)⟩
          have hfx : f = x + 1 := by
            rw [hf, behind]
            have : s.getLast? = some x := by rw [List.getLast?_eq_getElem?, HSN.out]; exact hx
            rw [this]
          have hcx := HLAST.out _ _ hx
          have hkk0 : (0 : Int) < (k : Int) := by omega
          have hkk1 : (1 : Int) ≤ (k : Int) := by omega
          have hkk2 : ((k : Int) - 1).toNat = k - 1 := by omega
          have hx6 : (x : Int) ≤ 12 := by omega
          have hx00 : (0 : Int) ≤ (x : Int) := Int.natCast_nonneg _
          have HFX := Lib.hid hfx
          clear hf hx hkz hfx
          go_wp2_with fail
          go_loopw [5, 9] (fun v i wr => ∃ j : Nat, f ≤ j ∧ j ≤ n ∧ i = .int .i64 j ∧ SSOwn2 wr w.heap.size w2.heap.size v (dn ++ (List.range' f (j - f)).map fun i => natI (s ++ [i])) ∧ v.ownBlock ≠ some gL ∧ SSOwnV wr lo (.slice (some ⟨gL, 0, none⟩) L.length capL) vsL L ∧ wr.cell? ⟨gL, 0, none⟩ = some (.slice (some ⟨x0, 0, none⟩) m0 cx0) ∧ Below w.heap.size w wr ∧ w2.heap.size ≤ wr.heap.size) (fun _ i _ => n - (intOf i).toNat)
          case atStart => exact ⟨f, Nat.le_refl _, hfn, by rw [HFX.out]; go_num, by rw [Nat.sub_self]; simpa using HSO.out, HNE.out, HSLr.out, HCLr.out, HB.out, hsz⟩
          case round =>
            obtain ⟨j, hj0, hjn, rfl, hso, hne, hsl, hcl, hb, hsz⟩ := hrel
            have HSO3 := Lib.hid hso
            have HSL3 := Lib.hid hsl
            have HCL3 := Lib.hid hcl
            have HNE3 := Lib.hid hne
            have HB3 := Lib.hid hb
            clear hso hsl hcl hne hb
            by_cases hlt2 : j < n
            · have hji0 : (0 : Int) ≤ (j : Int) := Int.natCast_nonneg _
              have hji1 : (j : Int) < (n : Int) := by omega
              obtain ⟨gL', capL', hv, hgl, hcell⟩ := HSL3.out.cell (HVA.out)
              injection hv with hv1 _ hv3
              injection hv1 with hv1
              injection hv1 with hv1
              subst hv1
              have hcells := HSL3.out.ints HLA.out HVA.out
              have hbl := HSL3.out.lt HLA.out HVA.out
              have HCS := Lib.hid hcells
              have HPL := Lib.hid (PLEN.out j hlt2)
              have HPU := Lib.hid (PUSH.out j hj0)
              obtain ⟨rs, hrs⟩ : ∃ rs, rs = dn ++ (List.range' f (j - f)).map fun i => natI (s ++ [i]) := ⟨_, rfl⟩
              rw [← hrs] at HPL HPU HSO3
              have hcl := HPL.out
              obtain ⟨vs, hvs1, hvs2⟩ := HSO3.out
              have hO1 := own_emptyD wr wr.heap.size (Nat.le_refl _) 3
              have hbA : Below wr.heap.size wr (wr.alloc (Obj.cells #[] 3)) := (Below.refl _ _).alloc (Nat.le_refl _) _
              have hn1 : ∀ (i : Nat) (u : Value), (intCells (natI s))[i]? = some u → (wr.alloc (Obj.cells #[] 3)).cell? ((⟨b, 0, none⟩ : Addr).add i) = some u := fun i u hu => by
                simp only [intCells, List.getElem?_map, Option.map_eq_some_iff] at hu
                obtain ⟨z, hz, rfl⟩ := hu
                rw [Addr.add_lit, Nat.zero_add]
                exact (hbA.cell (p := ⟨b, i, none⟩) (by simp only; omega)).trans (HCS.out i z hz)
              have g1 : (intCells (natI s)).length = k * 1 := by simp [intCells, natI, HSN.out]
              have g2 : ∀ u ∈ intCells (natI s), u.oneCell' = true := fun u hu => by
                simp only [intCells, List.mem_map] at hu
                obtain ⟨z, _, rfl⟩ := hu
                rfl
              have g3 : 0 + k ≤ maxLen := by unfold maxLen; omega
              have g4 : (0 + k) * 8 ≤ 140737488355328 := by omega
              have g5 : wr.heap.size ≤ (wr.alloc (Obj.cells #[] 3)).heap.size := by simp
              have g6 : k + 1 ≤ maxLen := by unfold maxLen; omega
              have g7 : (k + 1) * 8 ≤ 140737488355328 := by omega
              have n3 : rs.length + 1 ≤ maxLen := by unfold maxLen; omega
              have n4 : (rs.length + 1) * 24 ≤ 140737488355328 := by omega
              have STEP : Hid (∀ (v1 : Value) (w1 : World) (v2 : Value) (w2 : World), w1.ownsRow wr.heap.size 3 1 v1 k (intCells (natI s)) → World.grownBy (wr.alloc (Obj.cells #[] 3)) w1 (some wr.heap.size) →
                  w2.ownsRow wr.heap.size 3 1 v2 (k + 1) (intCells (natI s) ++ [.int .i64 (j : Int)]) → World.grownBy (w1.alloc (Obj.cells #[.int .i64 (j : Int)] 3)) w2 v1.ownBlock → _) := Lib.hid (fun v1 w1' v2 w2' o1 h1 o2 h2 =>
                    push_step HB3.out hsz hvs1 hvs2 HNE3.out HSL3.out (gL := gL) rfl HCL3.out hx0 (sets_below h1 o1 h2) (sets_own HSN.out o2))
              have HO1 := Lib.hid hO1
              have HN1 := Lib.hid hn1
              have G1 := Lib.hid g1
              have G2 := Lib.hid g2
              clear hO1 hn1 g1 g2 hbA hvs1 hvs2 hrs hcells hv3
              go_wp2_with (at_builtin; refine wpList_append_own _ rfl _ _ 28 rfl wr.heap.size 3 i0 (.int .i64 0) 1 8 Try.underlying28 hi hz0 hz1 hz2 rfl (by decide) _ _ _ rfl HO1.out ⟨b, 0, none⟩ k _ (intCells (natI s)) rfl G1.out HN1.out G2.out g3 g4 g5 ?_)
              intro v1 w3 hown1 hgrow1 _
              have hg1 : World.grownBy (wr.alloc (Obj.cells #[] 3)) w3 (some wr.heap.size) := hgrow1
              have hs1 : wr.heap.size ≤ (w3.alloc (Obj.cells #[.int .i64 (j : Int)] 3)).heap.size := by have := hg1.size; simp at this ⊢; omega
              have HW1 := Lib.hid hown1
              have HG1 := Lib.hid hg1
              clear hown1 hgrow1 hg1
              go_wp2_with (at_builtin; refine wpList_append_own _ rfl _ _ 28 rfl wr.heap.size 3 i0 (.int .i64 0) 1 8 Try.underlying28 hi hz0 hz1 hz2 rfl (by decide) _ _ _ rfl (HW1.out.alloc _) ⟨w3.heap.size, 0, none⟩ 1 1 [.int .i64 (j : Int)] rfl rfl (one_cell _ _ rfl _ _) (fun u hu => by rw [List.mem_singleton] at hu; rw [hu]; rfl) g6 g7 hs1 ?_)
              intro v2 w4 hown2 hgrow2 _
              obtain ⟨hq1, hq2, hq3⟩ := STEP.out v1 w3 v2 w4 HW1.out HG1.out hown2 hgrow2
              obtain ⟨A2, m2, c2, rfl⟩ := own_sl hown2
              have HQ1 := Lib.hid hq1
              have HQ3 := Lib.hid hq3
              clear hq1 hq3 hown2 hgrow2 HW1 HG1 hs1
              go_wp2_with (at_builtin; refine wpList_append_own _ rfl _ _ 41 rfl w.heap.size 28 i1 (.slice none 0 0) 1 24 Try.underlying41 hj hy0 hy1 hy2 rfl (by decide) _ _ _ rfl HQ1.out ⟨w4.heap.size, 0, none⟩ 1 1 [_] rfl rfl (one_cell _ _ rfl _ _) (fun u hu => by rw [List.mem_singleton] at hu; rw [hu]; rfl) n3 n4 hq2 ?_)
              intro v3 w5 hown3 hgrow3 _
              have HF := Lib.hid (HQ3.out w5 v3 hown3 hgrow3)
              clear hown3 hgrow3 HQ3 HQ1
              obtain ⟨f1, f2, f3, f4, f5, f6⟩ := HF.out
              rw [HPU.out] at f1
              have F1 := Lib.hid f1
              have F2 := Lib.hid f2
              have F3 := Lib.hid f3
              have F4 := Lib.hid f4
              have F6 := Lib.hid f6
              clear f1 f2 f3 f4 f6 HF
              go_wp2
              exact ⟨⟨j + 1, by omega, by omega, by go_num, F1.out, F2.out, F3.out, F6.out, F4.out, f5⟩, by simp [intOf]; omega⟩
            · have hso := HSO3.out
              rw [show j = n by omega, ← HDN.out] at hso
              have HSO4 := Lib.hid hso
              clear hso
              go_wp2
              exact ⟨⟨a + 1, by omega, by go_num, HSO4.out, HNE3.out, HSL3.out, HCL3.out, HB3.out, hsz⟩, by simp [intOf]; omega⟩
      · have hso := HSO.out.one (by omega)
        have hka : a = K := by omega
        rw [hka, HALL.out] at hso
        obtain ⟨vs9, q1, q2⟩ := hso
        have HP9 : Hid (∀ (i : Nat) (r : List Int), ((setsB n (k + 1)).map natI)[i]? = some r → ∃ u, vs9[i]? = some u ∧ Pointed u r.length) := Lib.hid (fun i r hr => by
          obtain ⟨u, hu, hq⟩ := q2 i r hr
          refine ⟨u, hu, own_pointed hq ?_⟩
          rw [List.getElem?_map, Option.map_eq_some_iff] at hr
          obtain ⟨s, hs, rfl⟩ := hr
          rw [natI_len, ((sets_size12 n hn (k + 1) hk6).2 s (List.mem_of_getElem? hs)).1]
          omega)
        have HV9 : Hid (SSOwnV _ _ _ _ _) := Lib.hid ⟨q1, q2⟩
        clear q1 q2
        go_wp2
        go_ret
        exact ⟨_, vs9, rfl, HV9.out, HP9.out, HB.out⟩
end Go.Proofs.Ytdpojcgeblbfeaa

/- NegateDivisor: the specification's appended numbers and the program's filled slice are one plain list. -/
namespace Go.Proofs.Ytdpojcgeblbfeaa
open Go.RowKit

end Go.Proofs.Ytdpojcgeblbfeaa

/- AddDivisors: the specification's appended sums and the program's filled slice are one plain list. -/
namespace Go.Proofs.Ytdpojcgeblbfeaa
open Go.RowKit

end Go.Proofs.Ytdpojcgeblbfeaa
