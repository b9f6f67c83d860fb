/- One text out of several: Conn RdQ FireS RdI RdJ RdK RdL RdR. -/
import Derived.Test.YtdpojcgeblbfeaaTBG
import Derived.Test.YtdpojcgeblbfeaaTBB
import Derived.Test.YtdpojcgeblbfeaaTBI
import Derived.Deep.CutRange
import Derived.Deep.LoopGhost
set_option linter.all false
/- A connected graph is cut by every set of vertices. -/
namespace Go.Proofs.Ytdpojcgeblbfeaa
open Go.RowKit

theorem near_cut {es : List (Int × Int)} {p : Int → Bool} {v : Int} {k : Nat} {u : Int} (h : Near es v k u) (hne : p v ≠ p u) : ∃ e ∈ es, p e.1 ≠ p e.2 := by
  induction h with
  | start => exact absurd rfl hne
  | stay _ ih => exact ih hne
  | @step k a b _ ht ih =>
    by_cases hab : p v = p a
    · rcases ht with g | g
      · exact ⟨(a, b), g, by rw [← hab]; exact hne⟩
      · exact ⟨(b, a), g, by simp only; rw [← hab]; exact Ne.symm hne⟩
    · exact ih hab
theorem Conn.cut {M : Nat} {es : List (Int × Int)} (h : Conn (M : Int) es) : Cut M es := by
  rintro p ⟨x, hx0, hx1, hpx⟩ ⟨y, hy0, hy1, hpy⟩
  obtain ⟨k1, n1⟩ := h x hx0 hx1
  obtain ⟨k2, n2⟩ := h y hy0 hy1
  cases hp : p 0 with
  | true => exact near_cut n2 (by rw [hp, hpy]; decide)
  | false => exact near_cut n1 (by rw [hp, hpx]; decide)
end Go.Proofs.Ytdpojcgeblbfeaa

/- Reducing: what the walks ask of the plain math. -/
namespace Go.Proofs.Ytdpojcgeblbfeaa
open Go.RowKit

section
variable {M : Nat} {es : List (Int × Int)} {d : List Int} {q : Nat} {f : Nat → Int} {σ : Nat → Int}
def upU (ord : List Int) (k : Nat) (x : Int) : Bool := !inL ord x && decide (x < (k : Int))
theorem Dv_get (hn : es.length ≤ 12) (hd : ∀ u, -300 ≤ d.getD u 0 ∧ d.getD u 0 ≤ 300) (hes : ∀ e ∈ es, 0 ≤ e.1 ∧ e.1 < e.2 ∧ e.2 < (M : Int)) (hf : ∀ u, u < M → -1000000000 ≤ f u ∧ f u ≤ 1000000000) {u : Nat} (hu : u < M) : (chipsOf M (Dv d es f)).getD u 0 = Dv d es f u :=
  chips_get hu (Dv_bound hn (fun u => by have := hd u; omega) hes hf u)
theorem Ph1.wide (h : Ph1 M es d q f) (hw : Wt M es q σ) (hM : M ≤ 6) (hes : ∀ e ∈ es, 0 ≤ e.1 ∧ e.1 < e.2 ∧ e.2 < (M : Int)) (hd : ∀ u, -300 ≤ d.getD u 0 ∧ d.getD u 0 ≤ 300) : ∀ u, u < M → -1000000000 ≤ f u ∧ f u ≤ 1000000000 := fun u hu => by
  have := h.low hw hM hes hd u hu
  omega
theorem Ph1.one (h : Ph1 M es d q f) (hn : es.length ≤ 12) (hes : ∀ e ∈ es, 0 ≤ e.1 ∧ e.1 < e.2 ∧ e.2 < (M : Int)) {v : Nat} (hv : v ≠ q) (hlt : Dv d es f v < 0) : Ph1 M es d q (addAt f v (-1)) :=
  h.step hes hv (k := 1) (by omega) (by have := nets_self v es (fun e he => (hes e he).2.1); omega)
theorem Ph2.next (h : Ph2 M es d q σ f) (hw : Wt M es q σ) (hq : q < M) (hes : ∀ e ∈ es, 0 ≤ e.1 ∧ e.1 < e.2 ∧ e.2 < (M : Int)) {t : Int} (ht : 0 ≤ t)
    (hc : ∀ v : Nat, v < M → ¬ (v : Int) ∈ burntL M es (chipsOf M (Dv d es f)) (q : Int) → t * heat (inL (burntL M es (chipsOf M (Dv d es f)) (q : Int))) v es ≤ Dv d es f v) :
    Ph2 M es d q σ (addSet f (upU (burntL M es (chipsOf M (Dv d es f)) (q : Int)) M) t) := by
  obtain ⟨hb, hnx⟩ := burntL_all (M := M) (es := es) (d := chipsOf M (Dv d es f)) (q := (q : Int)) (by omega)
  refine h.fire hw hes ht ?_ fun v hv hU => ?_
  · simp [upU, inL, hb.first]
  · simp only [upU, Bool.and_eq_true, Bool.not_eq_true', decide_eq_true_eq] at hU
    have h1 := hc v hv (by simpa [inL] using hU.1)
    rw [heat_congr (r := inL (burntL M es (chipsOf M (Dv d es f)) (q : Int))) v es fun e he => ?_]
    · exact h1
    · obtain ⟨g1, g2, g3⟩ := hes e he
      have a1 : e.1 < (M : Int) := by omega
      simp [upU, a1, g3]
theorem Ph2.one (h : Ph2 M es d q σ f) (hw : Wt M es q σ) (hM : M ≤ 6) (hn : es.length ≤ 12) (hq : q < M) (hd : ∀ u, -300 ≤ d.getD u 0 ∧ d.getD u 0 ≤ 300) (hes : ∀ e ∈ es, 0 ≤ e.1 ∧ e.1 < e.2 ∧ e.2 < (M : Int)) :
    Ph2 M es d q σ (addSet f (upU (burntL M es (chipsOf M (Dv d es f)) (q : Int)) M) 1) :=
  h.next hw hq hes (by omega) fun v hv hnb => by
    have h1 := nextV_no (burntL_all (M := M) (es := es) (d := chipsOf M (Dv d es f)) (q := (q : Int)) (by omega)).2 v hv
    simp only [catchV, Bool.and_eq_false_iff, decide_eq_false_iff_not, Bool.not_eq_false'] at h1
    rw [Dv_get hn hd hes (h.high hw hM hes) hv] at h1
    rcases h1 with g | g
    · omega
    · exact absurd (by simpa [inL] using g) hnb
theorem Ph2.more {ord : List Int} (hb : Burns M (q : Int) ord) (hl : ord.length ≠ M) : ∃ v, v < M ∧ upU ord M ((v : Nat) : Int) = true := by
  apply Classical.byContradiction
  intro hno
  refine hl (hb.full_iff.2 fun v hv => ?_)
  apply Classical.byContradiction
  intro hn
  exact hno ⟨v, hv, by simp [upU, inL, hn, hv]⟩
theorem Ph2.red (h : Ph2 M es d q σ f) (hw : Wt M es q σ) (hM : M ≤ 6) (hes : ∀ e ∈ es, 0 ≤ e.1 ∧ e.1 < e.2 ∧ e.2 < (M : Int)) (hl : (burntL M es (chipsOf M (Dv d es f)) (q : Int)).length = M) : IsRed M es d q f := ⟨h.zero, h.high hw hM hes, h.pos, hl⟩
end
end Go.Proofs.Ytdpojcgeblbfeaa

/- The specification's l04Fire. -/
namespace Go.Proofs.Ytdpojcgeblbfeaa
open Go.RowKit

def specF (d s : List Int) (es : List (Int × Int)) (k u : Nat) : Int := d.getD u 0 + terms s u (es.take k)
theorem specF_step (d s : List Int) {es : List (Int × Int)} {k a b : Nat} {sa sb : Int} (he : es[k]? = some ((a : Int), (b : Int))) (hab : a ≠ b) (ha : s[a]? = some sa) (hb : s[b]? = some sb) (u : Nat) :
    addAt (addAt (specF d s es k) a (sb - sa)) b (sa - sb) u = specF d s es (k + 1) u := by
  have h1 : s.getD a 0 = sa := by simp [List.getD, ha]
  have h2 : s.getD b 0 = sb := by simp [List.getD, hb]
  have hT := terms_snoc s u he
  have hterm : term s u ((a : Int), (b : Int)) = ind u a * (sb - sa) + ind u b * (sa - sb) := by simp only [term, Int.toNat_natCast, h1, h2]
  simp only [addAt, specF, hT, hterm]
  unfold ind
  by_cases e1 : u = b
  · subst e1
    rw [if_pos rfl, if_neg (Ne.symm hab), if_neg (by omega), if_pos rfl]
    omega
  · rw [if_neg e1]
    by_cases e2 : u = a
    · subst e2
      rw [if_pos rfl, if_pos rfl, if_neg (by omega)]
      omega
    · rw [if_neg e2, if_neg (by omega), if_neg (by omega)]
      omega
theorem specF_zero (d s : List Int) (es : List (Int × Int)) : specF d s es 0 = fun u => d.getD u 0 := by funext u; simp [specF, terms]
theorem specF_all (M : Nat) (d s : List Int) (es : List (Int × Int)) {k : Nat} (h : es.length ≤ k) : chipsOf M (specF d s es k) = firedB M es d s := chipsOf_eq fun u _ => by rw [specF, List.take_of_length_le h]
theorem wrap3 (x sa sb : Int) : wrap64 (wrap64 (wrap64 x - sa) + sb) = wrap64 (x + (sb - sa)) := by unfold wrap64; omega
theorem own_emptyF (w : World) (base : Nat) (hb : base ≤ w.heap.size) (t : TypeId) : (w.alloc (.cells #[] t)).ownsRow base t 1 (.slice (some ⟨w.heap.size, 0, none⟩) 0 0) 0 [] :=
  ⟨rfl, .inr ⟨w.heap.size, 0, #[], rfl, hb, heap_alloc_new w _, Nat.le_refl _, Nat.zero_le _, rfl, rfl⟩⟩

set_option maxRecDepth 100000 in
set_option maxHeartbeats 4000000 in
theorem l04Fire_any (N : Int) (M : Nat) (A D S : Option Addr) (c cd cs : Nat) (es : List (Int × Int)) (d s : List Int) (w : World) (hM0 : 0 < M) (hM6 : M ≤ 6) (hn : es.length ≤ 12) (hdl : d.length = M) (hsl : s.length = M)
    (hdw : ∀ x ∈ d, -9223372036854775808 ≤ x ∧ x ≤ 9223372036854775807) (hes : ∀ e ∈ es, 0 ≤ e.1 ∧ e.1 < e.2 ∧ e.2 < (M : Int)) (hE : EdgeS w w.heap.size A es) (hD : IntS w w.heap.size D d) (hS : IntS w w.heap.size S s) :
    Calls Try.prog 215 #[.agg #[.int .i64 N, .slice A es.length c], .slice D d.length cd, .slice S s.length cs] w (GivesInts w (firedB M es d s)) := by
  obtain ⟨i0, hi, hz0, hz1, hz2⟩ := info_parts intInfo
  obtain ⟨bd, od, rfl, hbd, hcd⟩ := hD (by omega)
  have hst := chips_start hdl hdw
  have HST := Lib.hid hst
  have HDL := Lib.hid hdl
  have HSL := Lib.hid hsl
  have HE := Lib.hid hE
  have HS := Lib.hid hS
  have HES := Lib.hid hes
  have HCD := Lib.hid hcd
  have hd6 : d.length ≤ 6 := by omega
  have hs6 : s.length ≤ 6 := by omega
  have hd0 : 0 < d.length := by omega
  have hO0 := own_emptyF (w.alloc (Obj.cells #[.int .i64 N, .slice A es.length c] 25)) w.heap.size (by simp) 3
  rw [World.size_alloc] at hO0
  have HO0 := Lib.hid hO0
  have hbA : Below w.heap.size w ((w.alloc (Obj.cells #[.int .i64 N, .slice A es.length c] 25)).alloc (Obj.cells #[] 3)) := ((Below.refl _ _).alloc (Nat.le_refl _) _).alloc (by simp) _
  clear hO0 hE hS hes hD hst hdl hsl hcd hdw
  go_enter Try.func215, Try.ntmps215
  go_wp2_with (at_builtin; refine wpList_append_own _ rfl _ _ 28 rfl w.heap.size 3 i0 (.int .i64 0) 1 8 Try.underlying28 hi hz0 hz1 hz2 rfl (by decide) _ _ _ rfl HO0.out ⟨bd, od, none⟩ d.length cd (intCells d) rfl ?c0 ?c1 ?c2 ?c3 ?c4 ?c5 ?_)
  case c0 => simp [intCells]
  case c1 =>
    intro j u hj
    simp only [intCells, List.getElem?_map, Option.map_eq_some_iff] at hj
    obtain ⟨z, hz, rfl⟩ := hj
    rw [Addr.add_lit]
    exact (hbA.cell (p := ⟨bd, od + j, none⟩) hbd).trans (HCD.out j z hz)
  case c2 =>
    intro u hu
    simp only [intCells, List.mem_map] at hu
    obtain ⟨z, _, rfl⟩ := hu
    rfl
  case c3 => unfold maxLen; omega
  case c4 => omega
  case c5 => simp; omega
  intro v' w1 hown hgrow _
  obtain ⟨g, cg, rfl, hg, hch⟩ := Chips.of_own (l := d) hown hd0
  have hb1 : Below w.heap.size w w1 := hbA.grown hgrow (by simp; omega) (fun q hq => (HO0.out.lt q hq).1)
  have hbx1 := ((Blk.new w 25 #[.int .i64 N, .slice A es.length c]).alloc (Obj.cells #[] 3)).moves (grownMv (g := w.heap.size + 1) hgrow) (.inl (by omega))
  have x1 : w1.cell? ⟨w.heap.size, 1, none⟩ = some (.slice A es.length c) := by rw [hbx1.cell]; rfl
  clear hbx1
  have hch0 := hch
  rw [← HST.out, ← specF_zero d s es] at hch0
  have HCH := Lib.hid hch0
  have HDM := Lib.hid (show d.length = M from HDL.out)
  clear hown hgrow hch hch0 hbA HCD
  go_wp2
  go_loopw [16] (fun i wr => ∃ k : Nat, k ≤ es.length ∧ i = .int .i64 k ∧ Chips wr g (chipsOf M (specF d s es k)) ∧ Below w.heap.size w wr) (fun i _ => es.length - (intOf i).toNat)
  case atStart => exact ⟨0, Nat.zero_le _, rfl, HCH.out, hb1⟩
  case round =>
    obtain ⟨k, hk, rfl, hcr, hb⟩ := hrel
    have HK := Lib.hid hcr
    clear hcr
    by_cases hlt : k < es.length
    · obtain ⟨b1, o1, e, rfl, hb1', he, hc0, hc1⟩ := (HE.out.below hb).at_ hlt
      obtain ⟨h1, h2, h3⟩ := HES.out e (List.mem_of_getElem? he)
      obtain ⟨x, y⟩ := e
      simp only at h1 h2 h3 hc0 hc1
      obtain ⟨a, rfl⟩ : ∃ a : Nat, x = (a : Int) := ⟨x.toNat, by omega⟩
      obtain ⟨b, rfl⟩ : ∃ b : Nat, y = (b : Int) := ⟨y.toNat, by omega⟩
      have haM : a < M := by omega
      have hbM : b < M := by omega
      have hab : a ≠ b := by omega
      obtain ⟨bs, os, sa, rfl, hbs, hsa, ea⟩ := (HS.out.below hb).at_ (k := a) (by have := HSL.out; omega)
      obtain ⟨bs2, os2, sb, hS2, _, hsb, eb⟩ := (HS.out.below hb).at_ (k := b) (by have := HSL.out; omega)
      injection hS2 with hS2
      injection hS2 with hS3 hS4
      subst hS3
      subst hS4
      have HF := Lib.hid (chipsOf_eq (M := M) fun u _ => specF_step d s he hab hsa hsb u)
      have hi0 : (0 : Int) ≤ (k : Int) := Int.natCast_nonneg _
      have hi1 : (k : Int) < (es.length : Int) := by omega
      have ha0 : (0 : Int) ≤ (a : Int) := Int.natCast_nonneg _
      have hb0 : (0 : Int) ≤ (b : Int) := Int.natCast_nonneg _
      have ha1 : (a : Int) < (d.length : Int) := by have := HDM.out; omega
      have hb2 : (b : Int) < (d.length : Int) := by have := HDM.out; omega
      have ha3 : (a : Int) < (s.length : Int) := by have := HSL.out; omega
      have hb3 : (b : Int) < (s.length : Int) := by have := HSL.out; omega
      have hbAA : Below wr.heap.size wr (wr.alloc (Obj.cells #[.int .i64 (a : Int), .int .i64 (b : Int)] 121)) := (Below.refl _ _).alloc (Nat.le_refl _) _
      have hblk0 := Blk.new wr 121 #[.int .i64 (a : Int), .int .i64 (b : Int)]
      have hC0 := HK.out.below hbAA
      have D0 := hb.alloc hb.size (Obj.cells #[.int .i64 (a : Int), .int .i64 (b : Int)] 121)
      have hbsw : bs < wr.heap.size := by have := hb.size; omega
      have hgw : g < wr.heap.size := HK.out.lt
      have ea0 := (hbAA.cell (p := ⟨bs, os + a, none⟩) hbsw).trans ea
      have eb0 := (hbAA.cell (p := ⟨bs, os + b, none⟩) hbsw).trans eb
      have C0 := Lib.hid hC0
      have BE := Lib.hid hblk0
      have HAB := Lib.hid hab
      have hbg : bs < g := by omega
      have hww : w.heap.size ≤ wr.heap.size := hb.size
      clear he hsa hsb ea eb hC0 hblk0 hbAA h1 h2 h3 hab hb1
      go_wp2_with fail
      obtain ⟨W0, hW0⟩ : ∃ X : World, X = wr.alloc (Obj.cells #[.int .i64 (a : Int), .int .i64 (b : Int)] 121) := ⟨_, rfl⟩
      rw [← hW0] at C0 BE D0 ea0 eb0 ⊢
      clear hW0 hc0 hc1
      have p0 : W0.cell? ⟨wr.heap.size, 0, none⟩ = some (.int .i64 (a : Int)) := by rw [BE.out.cell]; rfl
      have q0 : W0.cell? ⟨wr.heap.size, 1, none⟩ = some (.int .i64 (b : Int)) := by rw [BE.out.cell]; rfl
      obtain ⟨d0, f0⟩ := C0.out.cell a _ (chipsOf_at _ haM)
      have C1 := C0.out.set_ (a := a) (by rw [chipsOf_len]; exact haM) (wrap64 (wrap64 (wrap64 (specF d s es k a) - sa) + sb))
      rw [chipsOf_set M _ a _ (sb - sa) (wrap3 _ _ _)] at C1
      have C1' := Lib.hid (C1.below (Below.refl _ _).drew)
      clear C1
      have D1 := (D0.setCell (p := ⟨g, a, none⟩) hg (.int .i64 (wrap64 (wrap64 (wrap64 (specF d s es k a) - sa) + sb)))).drew
      have BE1 := Lib.hid ((BE.out.far (p := ⟨g, a, none⟩) (by simp only; omega) (.int .i64 (wrap64 (wrap64 (wrap64 (specF d s es k a) - sa) + sb)))).drew)
      have ea1 : (W0.setCell ⟨g, a, none⟩ (.int .i64 (wrap64 (wrap64 (wrap64 (specF d s es k a) - sa) + sb)))).drew.cell? ⟨bs, os + a, none⟩ = some (.int .i64 sa) := by
        show (W0.setCell _ _).cell? _ = _
        rw [World.cell?_setCell_other _ _ _ _ (by simp only [ne_eq, Addr.mk.injEq]; omega)]; exact ea0
      have eb1 : (W0.setCell ⟨g, a, none⟩ (.int .i64 (wrap64 (wrap64 (wrap64 (specF d s es k a) - sa) + sb)))).drew.cell? ⟨bs, os + b, none⟩ = some (.int .i64 sb) := by
        show (W0.setCell _ _).cell? _ = _
        rw [World.cell?_setCell_other _ _ _ _ (by simp only [ne_eq, Addr.mk.injEq]; omega)]; exact eb0
      obtain ⟨W1, hW1⟩ : ∃ X : World, X = (W0.setCell ⟨g, a, none⟩ (.int .i64 (wrap64 (wrap64 (wrap64 (specF d s es k a) - sa) + sb)))).drew := ⟨_, rfl⟩
      rw [← hW1] at C1' D1 BE1 ea1 eb1
      have HW1 := Lib.hid hW1
      clear hW1
      go_cut [16] from 16 to 62 (fun s16 wx => s16 = .int .i64 (k : Int) ∧ wx = W1)
      case first =>
        clear C1' D1 BE1 ea1 eb1 HF HE HS HES HST HDL HSL HO0 HCH HDM HK hb D0
        go_region
        go_wp2_with fail
        go_meet
        exact ⟨rfl, HW1.out.symm⟩
      case rest =>
        obtain ⟨rfl, rfl⟩ := hcut
        obtain ⟨V, rfl⟩ : ∃ V, V = wc := ⟨_, rfl⟩
        clear p0 q0 d0 f0 D0 ea0 eb0 C0 BE HW1
        have p1 : V.cell? ⟨wr.heap.size, 0, none⟩ = some (.int .i64 (a : Int)) := by rw [BE1.out.cell]; rfl
        have q1 : V.cell? ⟨wr.heap.size, 1, none⟩ = some (.int .i64 (b : Int)) := by rw [BE1.out.cell]; rfl
        obtain ⟨d1, f1⟩ := C1'.out.cell b _ (chipsOf_at _ hbM)
        have C2 := C1'.out.set_ (a := b) (by rw [chipsOf_len]; exact hbM) (wrap64 (wrap64 (wrap64 (addAt (specF d s es k) a (sb - sa) b) - sb) + sa))
        rw [chipsOf_set M _ b _ (sa - sb) (wrap3 _ _ _), HF.out] at C2
        have C2' := Lib.hid (C2.below (Below.refl _ _).drew)
        have D2 := Lib.hid ((D1.setCell (p := ⟨g, b, none⟩) hg (.int .i64 (wrap64 (wrap64 (wrap64 (addAt (specF d s es k) a (sb - sa) b) - sb) + sa)))).drew)
        clear C2 D1 HF
        clear C1' BE1 HE HS HES HST HSL HO0 HCH HK hb HAB
        go_wp2_with fail
        go_region
        go_wp2
        go_roundw
        case rel => exact ⟨k + 1, by omega, by go_num, C2'.out, D2.out⟩
        case measure => simp [intOf]; omega
    · have hK2 := HK.out
      rw [specF_all M d s es (by omega)] at hK2
      have HK2 := Lib.hid (hK2.own (base := w.heap.size) hg)
      have HFL := Lib.hid (firedB_len M es d s)
      clear hK2
      go_wp2
      go_ret
      exact ⟨some ⟨g, 0, none⟩, cg, by rw [HFL.out, ← HDM.out]; rfl, HK2.out, hb⟩
end Go.Proofs.Ytdpojcgeblbfeaa

/- The program's reducing: valence, fire, payDebts. -/
namespace Go.Proofs.Ytdpojcgeblbfeaa
open Go.RowKit

theorem net_self {v : Nat} {e : Int × Int} (h : e.1 < e.2) : net (v : Int) v e = if (v : Int) = e.1 ∨ (v : Int) = e.2 then -1 else 0 := by
  unfold net ind
  repeat' split
  all_goals omega
set_option maxRecDepth 100000 in
set_option maxHeartbeats 2000000 in
theorem valence_any (pb cA v B : Nat) (A : Option Addr) (G : Value) (es : List (Int × Int)) (w : World) (hBw : B ≤ w.heap.size) (hn : es.length ≤ 12) (hes : ∀ e ∈ es, e.1 < e.2) (hB : Blk w pb 112 #[.slice A es.length cA, G]) (hE : EdgeS w B A es) :
    Calls Try.prog 195 #[.pointer (some ⟨pb, 0, none⟩), .int .i64 (v : Int)] w fun e w' => e = .returned (.int .i64 (-nets (v : Int) v es)) ∧ Below w.heap.size w w' := by
  have q0 : w.cell? ⟨pb, 0, none⟩ = some (.slice A es.length cA) := by rw [hB.cell]; rfl
  have HE := Lib.hid hE
  have HES := Lib.hid hes
  clear hE hes hB
  go_enter Try.func195, Try.ntmps195
  go_wp2
  go_loopw [5, 13] (fun n i wr => ∃ k : Nat, k ≤ es.length ∧ i = .int .i64 k ∧ n = .int .i64 (-nets (v : Int) v (es.take k)) ∧ Below w.heap.size w wr) (fun _ i _ => es.length - (intOf i).toNat)
  case atStart => exact ⟨0, Nat.zero_le _, rfl, by simp [nets], Below.refl _ _⟩
  case round =>
    obtain ⟨k, hk, rfl, rfl, hb⟩ := hrel
    have HB := Lib.hid hb
    have hbw := hb.size
    clear hb q0
    by_cases hlt : k < es.length
    · obtain ⟨b1, o1, e, rfl, hb1, he, hc0, hc1⟩ := (HE.out.keep (fun p hp => HB.out.cell (by omega)) (Nat.le_refl _)).at_ hlt
      have hlt2 := HES.out e (List.mem_of_getElem? he)
      have hi0 : (0 : Int) ≤ (k : Int) := Int.natCast_nonneg _
      have hi1 : (k : Int) < (es.length : Int) := by omega
      have hns := nets_self v (es.take k) (fun x hx => HES.out x (List.mem_of_mem_take hx))
      have hnk : (es.take k).length ≤ 12 := by rw [List.length_take]; omega
      have HN := Lib.hid ((nets_snoc (v : Int) v he).trans (by rw [net_self hlt2]))
      have HBA := Lib.hid (HB.out.alloc HB.out.size (Obj.cells #[.int .i64 e.1, .int .i64 e.2] 121))
      obtain ⟨x, hx⟩ : ∃ x, x = nets (v : Int) v (es.take k) := ⟨_, rfl⟩
      rw [← hx] at hns HN ⊢
      have hx0 : -12 ≤ x := by omega
      have hx1 : x ≤ 0 := hns.2
      have hx2 : 0 ≤ -x := by omega
      have hx3 : -x ≤ 12 := by omega
      clear hx he hns hnk hlt2
      by_cases h1 : e.1 = (v : Int)
      · have t1 : (e.1 == (v : Int)) = true := by simp [h1]
        have HN2 := Lib.hid (HN.out.trans (by rw [if_pos (.inl h1.symm)]))
        clear h1
        go_wp2
        exact ⟨⟨k + 1, by omega, by go_num, by rw [HN2.out]; congr 1; omega, HBA.out⟩, by simp [intOf]; omega⟩
      · have t1 : (e.1 == (v : Int)) = false := by simp [h1]
        by_cases h2 : e.2 = (v : Int)
        · have t2 : (e.2 == (v : Int)) = true := by simp [h2]
          have HN2 := Lib.hid (HN.out.trans (by rw [if_pos (.inr h2.symm)]))
          clear h1 h2
          go_wp2
          exact ⟨⟨k + 1, by omega, by go_num, by rw [HN2.out]; congr 1; omega, HBA.out⟩, by simp [intOf]; omega⟩
        · have t2 : (e.2 == (v : Int)) = false := by simp [h2]
          have HN2 := Lib.hid (HN.out.trans (by rw [if_neg (by omega)]))
          clear h1 h2
          go_wp2
          exact ⟨⟨k + 1, by omega, by go_num, by rw [HN2.out]; congr 1; omega, HBA.out⟩, by simp [intOf]; omega⟩
    · have HQ := Lib.hid (show es.take k = es from List.take_of_length_le (by omega))
      rw [HQ.out]
      go_wp2
      go_ret
      exact ⟨rfl, HB.out⟩

structure RdI (wr : World) (B pr pb g cg gs M q : Nat) (A : Option Addr) (cA : Nat) (es : List (Int × Int)) (d : List Int) (f : Nat → Int) : Prop where
  red : Blk wr pr 115 #[.pointer (some ⟨pb, 0, none⟩), .int .i64 (q : Int), .slice (some ⟨gs, 0, none⟩) M M]
  brd : Blk wr pb 112 #[.slice A es.length cA, .slice (some ⟨g, 0, none⟩) M cg]
  chips : Chips wr g (chipsOf M (Dv d es f))
  scr : Chips wr gs (chipsOf M f)
theorem RdI.below {wr w2 : World} {B pr pb g cg gs M q : Nat} {A : Option Addr} {cA : Nat} {es : List (Int × Int)} {d : List Int} {f : Nat → Int} (h : RdI wr B pr pb g cg gs M q A cA es d f) (hb : Below wr.heap.size wr w2) : RdI w2 B pr pb g cg gs M q A cA es d f :=
  ⟨h.red.below hb h.red.lt, h.brd.below hb h.brd.lt, h.chips.below hb, h.scr.below hb⟩
end Go.Proofs.Ytdpojcgeblbfeaa

/- The program's payDebts. -/
namespace Go.Proofs.Ytdpojcgeblbfeaa
open Go.RowKit

end Go.Proofs.Ytdpojcgeblbfeaa

/- The program's firings. -/
namespace Go.Proofs.Ytdpojcgeblbfeaa
open Go.RowKit

def Allow (c h : Nat → Int) (l : List Int) (T : Int) : Prop := 1 ≤ T ∧ T ≤ 9223372036854775807 ∧ ∀ v : Nat, (v : Int) ∈ l → 0 < h v → T ≤ (c v).tdiv (h v)
theorem Allow.start (c h : Nat → Int) : Allow c h [] 9223372036854775807 := ⟨by omega, by omega, fun v hv => by simp at hv⟩
theorem Allow.skip {c h : Nat → Int} {l : List Int} {T : Int} {v : Nat} (a : Allow c h l T) (hv : ¬ 0 < h v) : Allow c h (l ++ [(v : Int)]) T := ⟨a.1, a.2.1, fun u hu hp => by
  rw [List.mem_append, List.mem_singleton] at hu
  rcases hu with hu | hu
  · exact a.2.2 u hu hp
  · rw [show u = v by omega] at hp
    exact absurd hp hv⟩
theorem quo_pos {x y : Int} (hy : 0 < y) (h : y ≤ x) : 1 ≤ x.tdiv y ∧ x.tdiv y ≤ x ∧ x.tdiv y * y ≤ x := by
  rw [Int.tdiv_eq_ediv_of_nonneg (by omega)]
  have h1 := Int.ediv_mul_le x (show y ≠ 0 by omega)
  have h2 : 1 ≤ x / y := by
    rw [Int.le_ediv_iff_mul_le hy]
    omega
  have h3 : x / y ≤ x := Int.ediv_le_self _ (by omega)
  exact ⟨h2, h3, h1⟩
theorem Allow.take {c h : Nat → Int} {l : List Int} {T : Int} {v : Nat} (a : Allow c h l T) (hv : 0 < h v) (hc : h v ≤ c v) : Allow c h (l ++ [(v : Int)]) (min T ((c v).tdiv (h v))) := by
  have hq := quo_pos hv hc
  refine ⟨by have := a.1; omega, by have := a.2.1; omega, fun u hu hp => ?_⟩
  rw [List.mem_append, List.mem_singleton] at hu
  rcases hu with hu | hu
  · have := a.2.2 u hu hp
    omega
  · rw [show u = v by omega]
    omega
end Go.Proofs.Ytdpojcgeblbfeaa

/- The program's fireSpared and reduce. -/
namespace Go.Proofs.Ytdpojcgeblbfeaa
open Go.RowKit

section
variable {M : Nat} {es : List (Int × Int)} {d : List Int} {q : Nat} {f : Nat → Int} {σ : Nat → Int}
end
end Go.Proofs.Ytdpojcgeblbfeaa

/- The program's reduce. -/
namespace Go.Proofs.Ytdpojcgeblbfeaa
open Go.RowKit

end Go.Proofs.Ytdpojcgeblbfeaa
