/- One text out of several: Mv FireI OwnK Blaze Burn BurnS DivB Div GBx FireB BurnF Debt. -/
import Derived.Test.YtndncmjhpbjcoaaGBA
import Derived.Test.YtndncmjhpbjcoaaGBG
import Derived.Test.YtndncmjhpbjcoaaGBF
import Derived.Test.YtndncmjhpbjcoaaGBB
import Derived.Test.YtndncmjhpbjcoaaGSh
import Derived.Deep.LoopGhost
import Derived.Test.YtndncmjhpbjcoaaGBC
set_option linter.all false
/- Steps that leave all blocks but a range, put together. -/
namespace Go.Proofs.Ytndncmjhpbjcoaa
open Go.RowKit
section
variable {w w' : World} {lo hi g : Nat}
theorem Moves.set_ (h : Moves g (g + 1) w w') (i : Nat) (u : Value) : Moves g (g + 1) w (w'.setCell ⟨g, i, none⟩ u) :=
  ⟨h.os, h.tape, h.output, by simpa [World.setCell] using h.size, fun k hk ho => (Below.heap_setCell w' ⟨g, i, none⟩ u k (by simp only; omega)).trans (h.block k hk ho)⟩
theorem Moves.refl (w : World) (lo hi : Nat) : Moves lo hi w w := ⟨rfl, rfl, rfl, Nat.le_refl _, fun _ _ _ => rfl⟩
theorem Moves.trans {w3 : World} (h : Moves lo hi w w') (k : Moves lo hi w' w3) : Moves lo hi w w3 :=
  ⟨k.os.trans h.os, k.tape.trans h.tape, k.output.trans h.output, Nat.le_trans h.size k.size, fun i hi2 ho => (k.block i (Nat.lt_of_lt_of_le hi2 h.size) ho).trans (h.block i hi2 ho)⟩
theorem Moves.alloc (h : Moves lo hi w w') (o : Obj) : Moves lo hi w (w'.alloc o) :=
  ⟨h.os, h.tape, h.output, by simp; have := h.size; omega, fun k hk ho => (Below.heap_alloc w' o k (Nat.lt_of_lt_of_le hk h.size)).trans (h.block k hk ho)⟩
theorem Moves.below {B : Nat} (h : Moves lo hi w w') (hB : B ≤ lo) (hs : B ≤ w.heap.size) : Below B w w' :=
  ⟨h.os, h.tape, h.output, h.size, fun i hi => h.block i (by omega) (.inl (by omega))⟩
end
end Go.Proofs.Ytndncmjhpbjcoaa

/- The program's board: send and fire. -/
namespace Go.Proofs.Ytndncmjhpbjcoaa
open Go.RowKit

structure Chips (w : World) (g : Nat) (l : List Int) : Prop where
  lt : g < w.heap.size
  cell : ∀ (i : Nat) (z : Int), l[i]? = some z → w.cell? ⟨g, i, none⟩ = some (.int .i64 z) ∧ w.frozen? ⟨g, i, none⟩ = false
section
variable {w w' : World} {g lo hi : Nat} {l : List Int}
theorem Chips.moves (h : Chips w g l) (m : Moves lo hi w w') (h1 : g < lo ∨ hi ≤ g) : Chips w' g l := by
  have hbl := m.block g h.lt h1
  exact ⟨Nat.lt_of_lt_of_le h.lt m.size, fun i z hz => ⟨(World.cell?_of_block (a := ⟨g, i, none⟩) hbl).trans (h.cell i z hz).1, (World.frozen?_of_block (a := ⟨g, i, none⟩) hbl).trans (h.cell i z hz).2⟩⟩
theorem Chips.below (h : Chips w g l) (hb : Below w.heap.size w w') : Chips w' g l := h.moves (belowMv hb 0) (.inr (Nat.zero_le _))
theorem Chips.set_ (h : Chips w g l) {a : Nat} (ha : a < l.length) (x : Int) : Chips (w.setCell ⟨g, a, none⟩ (.int .i64 x)) g (l.set a x) := by
  refine ⟨by simpa [World.setCell] using h.lt, fun i z hz => ?_⟩
  obtain ⟨h1, h2⟩ := h.cell a _ (List.getElem?_eq_getElem ha)
  by_cases e : i = a
  · subst e
    rw [List.getElem?_set_self ha] at hz
    injection hz with hz
    subst hz
    exact ⟨World.cell?_setCell_same _ _ _ h1, by rw [World.frozen?_setCell]; exact h2⟩
  · rw [List.getElem?_set_ne (Ne.symm e)] at hz
    obtain ⟨h3, h4⟩ := h.cell i z hz
    exact ⟨by rw [World.cell?_setCell_other _ _ _ _ (by simp only [ne_eq, Addr.mk.injEq]; omega)]; exact h3, by rw [World.frozen?_setCell]; exact h4⟩
theorem Chips.ints (h : Chips w g l) : IntS w w.heap.size (some ⟨g, 0, none⟩) l := fun _ => ⟨g, 0, rfl, h.lt, fun i z hz => by rw [Nat.zero_add]; exact (h.cell i z hz).1⟩
theorem Chips.own {base : Nat} (h : Chips w g l) (hg : base ≤ g) : OwnI w base (some ⟨g, 0, none⟩) l := fun _ => ⟨g, 0, rfl, hg, h.lt, fun i z hz => by rw [Nat.zero_add]; exact h.cell i z hz⟩
theorem Chips.of_own {base n : Nat} {v : Value} (h : w.ownsRow base 3 1 v n (intCells l)) (hn : 0 < n) : ∃ g c : Nat, v = .slice (some ⟨g, 0, none⟩) n c ∧ base ≤ g ∧ Chips w g l := by
  obtain ⟨hl, h⟩ := h
  rcases h with ⟨_, h0⟩ | ⟨g, cap, cur, hv, hb, hh, hnc, _, hcs, htk⟩
  · omega
  · have hblk : Blk w g 3 cur := hh
    refine ⟨g, cap, hv, hb, hblk.lt, fun i z hz => ⟨?_, hblk.frozen _⟩⟩
    have hi : i < l.length := (List.getElem?_eq_some_iff.1 hz).1
    have hln : l.length = n := by simpa [intCells] using hl
    rw [hblk.cell]
    have : (cur.toList.take (n * 1))[i]? = some (.int .i64 z) := by rw [htk]; simp [intCells, hz]
    rw [List.getElem?_take_of_lt (by omega)] at this
    simpa using this
end

def Sent (w : World) (g M : Nat) (f : Nat → Int) (e : Ending) (w' : World) : Prop := e = .returned (.tuple #[]) ∧ Chips w' g (chipsOf M f) ∧ Moves g (g + 1) w w'
set_option maxHeartbeats 400000 in
theorem send_any (p g M cg a b : Nat) (n cA : Nat) (A : Option Addr) (f : Nat → Int) (t : Int) (w : World) (hpg : p ≠ g) (ha : a < M) (hb : b < M) (hB : Blk w p 75 #[.slice A n cA, .slice (some ⟨g, 0, none⟩) M cg]) (hC : Chips w g (chipsOf M f)) :
    Calls Try.prog 136 #[.pointer (some ⟨p, 0, none⟩), .int .i64 (a : Int), .int .i64 (b : Int), .int .i64 t] w (Sent w g M (addAt (addAt f a (-t)) b t)) := by
  have c1 : w.cell? ⟨p, 1, none⟩ = some (.slice (some ⟨g, 0, none⟩) M cg) := by rw [hB.cell]; rfl
  obtain ⟨d0, f0⟩ := hC.cell a _ (chipsOf_at f ha)
  have hx0 : wrap64 (wrap64 (f a) - t) = wrap64 (f a + -t) := by rw [wrap64_subL, Int.sub_eq_add_neg]
  have hC1 := hC.set_ (a := a) (by rw [chipsOf_len]; exact ha) (wrap64 (wrap64 (f a) - t))
  rw [chipsOf_set M f a _ (-t) hx0] at hC1
  obtain ⟨d1, f1⟩ := hC1.cell b _ (chipsOf_at _ hb)
  have hx1 : wrap64 (wrap64 (addAt f a (-t) b) + t) = wrap64 (addAt f a (-t) b + t) := wrap64_addL _ _
  have hC2 := hC1.set_ (a := b) (by rw [chipsOf_len]; exact hb) (wrap64 (wrap64 (addAt f a (-t) b) + t))
  rw [chipsOf_set M _ b _ t hx1] at hC2
  have hM2 := ((Moves.refl w g (g + 1)).set_ a (.int .i64 (wrap64 (wrap64 (f a) - t)))).set_ b (.int .i64 (wrap64 (wrap64 (addAt f a (-t) b) + t)))
  have HC2 := Lib.hid hC2
  have HM2 := Lib.hid hM2
  have ha0 : (0 : Int) ≤ (a : Int) := Int.natCast_nonneg _
  have hb0 : (0 : Int) ≤ (b : Int) := Int.natCast_nonneg _
  have ha1 : (a : Int) < (M : Int) := by omega
  have hb1 : (b : Int) < (M : Int) := by omega
  have hgp : g ≠ p := Ne.symm hpg
  clear hC hC1 hC2 hM2 hx0 hx1 hB
  go_enter Try.func136, Try.ntmps136
  go_wp2
  go_end0
  exact ⟨rfl, HC2.out, HM2.out⟩

set_option maxHeartbeats 1000000 in
theorem fire_any (p g M cg cA B : Nat) (A : Option Addr) (es : List (Int × Int)) (f : Nat → Int) (v t : Int) (w : World) (hpg : p ≠ g) (hBg : B ≤ g) (hBw : B ≤ w.heap.size) (hn : es.length ≤ 12) (hes : ∀ e ∈ es, 0 ≤ e.1 ∧ e.1 < e.2 ∧ e.2 < (M : Int))
    (hB : Blk w p 75 #[.slice A es.length cA, .slice (some ⟨g, 0, none⟩) M cg]) (hC : Chips w g (chipsOf M f)) (hE : EdgeS w B A es) :
    Calls Try.prog 103 #[.pointer (some ⟨p, 0, none⟩), .int .i64 v, .int .i64 t] w (Sent w g M (fireF f v t es)) := by
  have b0 : w.cell? ⟨p, 0, none⟩ = some (.slice A es.length cA) := by rw [hB.cell]; rfl
  have HB := Lib.hid hB
  have HE := Lib.hid hE
  have HS := Lib.hid hes
  have HC := Lib.hid hC
  have HI := Lib.hid hpg
  clear hB hE hes hC hpg
  go_enter Try.func103, Try.ntmps103
  go_wp2
  go_loopw [13] (fun i wr => ∃ k : Nat, k ≤ es.length ∧ i = .int .i64 k ∧ Chips wr g (chipsOf M (fireF f v t (es.take k))) ∧ Moves g (g + 1) w wr) (fun i _ => es.length - (intOf i).toNat)
  case atStart => exact ⟨0, Nat.zero_le _, rfl, by rw [List.take_zero, fireF_nil]; exact HC.out, Moves.refl _ _ _⟩
  case round =>
    obtain ⟨k, hk, rfl, hch, hmv⟩ := hrel
    have HK := Lib.hid hch
    have HM := Lib.hid hmv
    clear hch hmv b0
    by_cases hlt : k < es.length
    · obtain ⟨b1, o1, e, rfl, hb1, he, hc0, hc1⟩ := (HE.out.below (HM.out.below hBg hBw)).at_ hlt
      obtain ⟨h1, h2, h3⟩ := HS.out e (List.mem_of_getElem? he)
      have HFS := fun u => Lib.hid (fireF_step f v t he u)
      clear he
      obtain ⟨x, y⟩ := e
      simp only at h1 h2 h3 hc0 hc1 HFS
      obtain ⟨a, rfl⟩ : ∃ a : Nat, x = (a : Int) := ⟨x.toNat, by omega⟩
      obtain ⟨b, rfl⟩ : ∃ b : Nat, y = (b : Int) := ⟨y.toNat, by omega⟩
      have hi0 : (0 : Int) ≤ (k : Int) := Int.natCast_nonneg _
      have hi1 : (k : Int) < (es.length : Int) := by omega
      have ha : a < M := by omega
      have hb : b < M := by omega
      have hab : a ≠ b := by omega
      have HAB := Lib.hid hab
      have hmA : Moves g (g + 1) wr (wr.alloc (Obj.cells #[.int .i64 (a : Int), .int .i64 (b : Int)] 122)) := (Moves.refl _ _ _).alloc _
      have HCA := Lib.hid (HK.out.below ((Below.refl _ _).alloc (Nat.le_refl _) (Obj.cells #[.int .i64 (a : Int), .int .i64 (b : Int)] 122)))
      have HBA := Lib.hid ((HB.out.moves HM.out (by have := HI.out; omega)).moves hmA (by have := HI.out; omega))
      have HMA := Lib.hid (HM.out.trans hmA)
      clear hab hmA h1 h2 h3
      by_cases hv1 : v = (a : Int)
      · have t1 : (v == (a : Int)) = true := by simp [hv1]
        have HF : Hid (chipsOf M (addAt (addAt (fireF f v t (es.take k)) a (-t)) b t) = chipsOf M (fireF f v t (es.take (k + 1)))) := Lib.hid (chipsOf_eq fun u _ => by
          rw [send_f _ _ _ _ HAB.out, (HFS u).out, net_1 (v := v) (e := ((a : Int), (b : Int))) hv1])
        clear HFS hv1
        go_wp2_with fail
        refine (send_any p g M cg a b _ _ _ _ t _ HI.out ha hb HBA.out HCA.out).mono ?_
        rintro e w2 ⟨rfl, hc2, hm2⟩
        rw [HF.out] at hc2
        have HC2 := Lib.hid hc2
        have HM2 := Lib.hid (HMA.out.trans hm2)
        clear hc2 hm2
        go_wp2
        exact ⟨⟨k + 1, by omega, by go_num, HC2.out, HM2.out⟩, by simp [intOf]; omega⟩
      · have t1 : (v == (a : Int)) = false := by simp [hv1]
        by_cases hv2 : v = (b : Int)
        · have t2 : (v == (b : Int)) = true := by simp [hv2]
          have HF : Hid (chipsOf M (addAt (addAt (fireF f v t (es.take k)) b (-t)) a t) = chipsOf M (fireF f v t (es.take (k + 1)))) := Lib.hid (chipsOf_eq fun u _ => by
            rw [send_f _ _ _ _ (Ne.symm HAB.out), (HFS u).out, net_2 (v := v) (e := ((a : Int), (b : Int))) hv1 hv2])
          clear HFS hv1 hv2
          go_wp2_with fail
          refine (send_any p g M cg b a _ _ _ _ t _ HI.out hb ha HBA.out HCA.out).mono ?_
          rintro e w2 ⟨rfl, hc2, hm2⟩
          rw [HF.out] at hc2
          have HC2 := Lib.hid hc2
          have HM2 := Lib.hid (HMA.out.trans hm2)
          clear hc2 hm2
          go_wp2
          exact ⟨⟨k + 1, by omega, by go_num, HC2.out, HM2.out⟩, by simp [intOf]; omega⟩
        · have t2 : (v == (b : Int)) = false := by simp [hv2]
          have HF : Hid (chipsOf M (fireF f v t (es.take k)) = chipsOf M (fireF f v t (es.take (k + 1)))) := Lib.hid (chipsOf_eq fun u _ => by
            rw [(HFS u).out, net_0 (v := v) (e := ((a : Int), (b : Int))) hv1 hv2]; simp)
          clear HFS hv1 hv2
          have hcA := HCA.out
          rw [HF.out] at hcA
          have HCA2 := Lib.hid hcA
          clear hcA
          go_wp2
          exact ⟨⟨k + 1, by omega, by go_num, HCA2.out, HMA.out⟩, by simp [intOf]; omega⟩
    · have hK2 := HK.out
      rw [List.take_of_length_le (by omega)] at hK2
      have HK2 := Lib.hid hK2
      clear hK2
      go_wp2
      go_end0
      exact ⟨rfl, HK2.out, HM.out⟩
end Go.Proofs.Ytndncmjhpbjcoaa

/- Rows of one's own, kept. -/
namespace Go.Proofs.Ytndncmjhpbjcoaa
open Go.RowKit

theorem own_below {w w' : World} {base n : Nat} {t : TypeId} {v : Value} {xs : List Value} (h : w.ownsRow base t 1 v n xs) (hb : Below w.heap.size w w') : w'.ownsRow base t 1 v n xs := h.kept (row := none) ⟨hb.os, hb.tape, hb.output, hb.size, fun i hi _ => hb.block i hi⟩ (Classical.em _)
end Go.Proofs.Ytndncmjhpbjcoaa

/- The program's fire: light, burns, catches. -/
namespace Go.Proofs.Ytndncmjhpbjcoaa
open Go.RowKit

structure Blaze (w : World) (B base pf gh ch pb M : Nat) (ord : List Int) (h : Nat → Int) : Prop where
  box : ∃ (O : Option Addr) (co : Nat), Blk w pf 146 #[.pointer (some ⟨pb, 0, none⟩), .slice O ord.length co, .slice (some ⟨gh, 0, none⟩) M ch] ∧ w.ownsRow base 3 1 (.slice O ord.length co) ord.length (intCells ord)
  heat : Chips w gh (chipsOf M h)
  lo1 : B ≤ gh
  lo2 : B ≤ pf
  lt1 : gh < base
  lt2 : pf < base
  ne : gh ≠ pf
  size : base ≤ w.heap.size
theorem Blaze.below {w w' : World} {B base pf gh ch pb M : Nat} {ord : List Int} {h : Nat → Int} (z : Blaze w B base pf gh ch pb M ord h) (hb : Below w.heap.size w w') : Blaze w' B base pf gh ch pb M ord h := by
  obtain ⟨O, co, h1, h2⟩ := z.box
  refine ⟨⟨O, co, h1.below hb h1.lt, ?_⟩, z.heat.below hb, z.lo1, z.lo2, z.lt1, z.lt2, z.ne, Nat.le_trans z.size hb.size⟩
  refine ⟨h2.1, ?_⟩
  rcases h2.2 with g | ⟨g, cap, cur, hv, hbb, hh, rest⟩
  · exact .inl g
  · refine .inr ⟨g, cap, cur, hv, hbb, ?_, rest⟩
    rw [hb.block g (Array.getElem?_eq_some_iff.1 hh).1]
    exact hh
theorem Blaze.drew {w : World} {B base pf gh ch pb M : Nat} {ord : List Int} {h : Nat → Int} (z : Blaze w B base pf gh ch pb M ord h) : Blaze w.drew B base pf gh ch pb M ord h := z.below (Below.refl _ _).drew
theorem Blaze.congr {w : World} {B base pf gh ch pb M : Nat} {ord : List Int} {h h2 : Nat → Int} (z : Blaze w B base pf gh ch pb M ord h) (e : ∀ u, h u = h2 u) : Blaze w B base pf gh ch pb M ord h2 := by
  rw [show h = h2 from funext e] at z
  exact z
end Go.Proofs.Ytndncmjhpbjcoaa

/- The program's burn: which vertices burn, in their order. -/
namespace Go.Proofs.Ytndncmjhpbjcoaa
open Go.RowKit

theorem Chips.of_blk {w : World} {g : Nat} {t : TypeId} {l : List Int} (h : Blk w g t (intCells l).toArray) : Chips w g l := ⟨h.lt, fun i z hz => ⟨by rw [h.cell]; simp [intCells, hz], h.frozen _⟩⟩
def HeatIs (es : List (Int × Int)) (ord : List Int) (h : Nat → Int) : Prop := ∀ u, h u = heat (inL ord) u es
theorem HeatIs.push {es : List (Int × Int)} {ord : List Int} {h : Nat → Int} {v : Nat} (hh : HeatIs es ord h) (hn : ¬ (v : Int) ∈ ord) (hes : ∀ e ∈ es, e.1 < e.2) : HeatIs es (ord ++ [(v : Int)]) (fun u => h u + warms (v : Int) u es) := fun u => by
  show h u + warms (v : Int) u es = _
  rw [inL_snoc, heat_light (inL ord) (v : Int) (by simp [inL, hn]) u es hes, hh u]
theorem HeatIs.nil (es : List (Int × Int)) : HeatIs es [] (fun _ => 0) := fun u => (heat_none (fun x => by simp [inL]) u es).symm
end Go.Proofs.Ytndncmjhpbjcoaa

/- The specification's l05Burn. -/
namespace Go.Proofs.Ytndncmjhpbjcoaa
open Go.RowKit

def burntM (M : Nat) (ord : List Int) : List Value := (List.range M).map fun (v : Nat) => Value.bool (inL ord (v : Int))
structure BurnW (w wr : World) (M : Nat) (A : Option Addr) (c : Nat) (es : List (Int × Int)) (v : Value) (ord : List Int) : Prop where
  box : Blk wr w.heap.size 25 #[.int .i64 (M : Int), .slice A es.length c]
  own : wr.ownsRow (w.heap.size + 1) 3 1 v ord.length (intCells ord)
  marks : Blk wr (w.heap.size + 1 + 1) 4 (burntM M ord).toArray
  old : Below w.heap.size w wr
theorem BurnW.next {w wr w2 : World} {M : Nat} {A : Option Addr} {c : Nat} {es : List (Int × Int)} {v : Value} {ord : List Int} (h : BurnW w wr M A c es v ord) (hb : Below wr.heap.size wr w2) : BurnW w w2 M A c es v ord :=
  ⟨h.box.below hb h.box.lt, own_below h.own hb, h.marks.below hb h.marks.lt, h.old.trans (hb.mono h.old.size)⟩
def Above (M : Nat) (es : List (Int × Int)) (d ord : List Int) (z nx : Int) : Prop :=
  (nx = -1 ∧ ∀ j : Nat, j < M → z < (j : Int) → catchV es d ord j = false) ∨ (∃ j0 : Nat, nx = (j0 : Int) ∧ j0 < M ∧ z < (j0 : Int) ∧ catchV es d ord j0 = true ∧ ∀ j : Nat, j < j0 → z < (j : Int) → catchV es d ord j = false)
theorem Above.start (M : Nat) (es : List (Int × Int)) (d ord : List Int) : Above M es d ord ((M : Int) - 1) (-1) := .inl ⟨rfl, fun j hj h => by omega⟩
theorem Above.hit {M : Nat} {es : List (Int × Int)} {d ord : List Int} {v : Nat} (hv : v < M) (hc : catchV es d ord v = true) : Above M es d ord ((v : Int) - 1) (v : Int) :=
  .inr ⟨v, rfl, hv, by omega, hc, fun j hj hz => by omega⟩
theorem Above.lo {M : Nat} {es : List (Int × Int)} {d ord : List Int} {z nx : Int} (h : Above M es d ord z nx) : -1 ≤ nx ∧ nx < (M : Int) := by
  rcases h with ⟨h1, h2⟩ | ⟨j0, h1, h2, h3, h4, h5⟩ <;> omega

end Go.Proofs.Ytndncmjhpbjcoaa

/- DivisorOk and ScriptOk: both sides answer one plain test of the graph and the list. -/
namespace Go.Proofs.Ytndncmjhpbjcoaa
open Go.RowKit

noncomputable def divB (m : Int) (N : Int) (es : List (Int × Int)) (d : List Int) : Bool := graphB N es && (decide ((d.length : Int) = N) && d.all (within m))
theorem divB_g {m N : Int} {es : List (Int × Int)} {d : List Int} (h : graphB N es = false) : divB m N es d = false := by simp [divB, h]
theorem divB_l {m N : Int} {es : List (Int × Int)} {d : List Int} (h : (d.length : Int) ≠ N) : divB m N es d = false := by simp [divB, h]
theorem divB_a {m N : Int} {es : List (Int × Int)} {d : List Int} (h : graphB N es = true) (h2 : (d.length : Int) = N) : divB m N es d = d.all (within m) := by simp [divB, h, h2]
theorem divB_all {m N : Int} {es : List (Int × Int)} {d : List Int} (h : divB m N es d = true) : graphB N es = true ∧ (d.length : Int) = N ∧ ∀ x ∈ d, -m ≤ x ∧ x ≤ m := by
  simp only [divB, Bool.and_eq_true, decide_eq_true_eq, List.all_eq_true] at h
  exact ⟨h.1, h.2.1, fun x hx => within_iff (h.2.2 x hx)⟩
end Go.Proofs.Ytndncmjhpbjcoaa

/- DivisorOk: both sides. -/
namespace Go.Proofs.Ytndncmjhpbjcoaa
open Go.RowKit

set_option maxHeartbeats 1000000 in
theorem implDiv (N : Int) (A D : Option Addr) (c cd : Nat) (es : List (Int × Int)) (d : List Int) (w : World) (hn : es.length ≤ 1048576) (hd : d.length ≤ 1048576) (hE : EdgeS w w.heap.size A es) (hS : IntS w w.heap.size D d) :
    Calls Try.prog 99 #[.agg #[.int .i64 N, .slice A es.length c], .slice D d.length cd] w fun e w' => e = .returned (.bool (divB 60 N es d)) ∧ Below w.heap.size w w' := by
  have HE := Lib.hid hE
  have HS := Lib.hid hS
  clear hE hS
  have hb0 : Below w.heap.size w (w.alloc (Obj.cells #[.int .i64 N, .slice A es.length c] 25)) := (Below.refl _ _).alloc (Nat.le_refl _) _
  have HG := fun w h => Lib.hid (implGraphOk N A c es w hn h)
  cases hB : graphB N es with
  | false =>
    rw [hB] at HG
    rw [divB_g hB]
    clear hB
    go_enter Try.func99, Try.ntmps99
    go_wp2_with fail
    refine (HG _ (HE.out.up_ hb0)).out.mono ?_
    rintro e w1 ⟨rfl, hb1⟩
    have hbb : Below w.heap.size w w1 := hb0.trans (hb1.mono hb0.size)
    clear hb0 hb1
    go_wp2
    go_ret
    exact ⟨rfl, hbb⟩
  | true =>
    rw [hB] at HG
    by_cases hl : (d.length : Int) = N
    · rw [divB_a hB hl]
      have t0 : ((d.length : Int) == N) = true := by simp [hl]
      have HW := fun w B h => Lib.hid (areWithin_any D cd B d 60 w hd (by omega) (by omega) h)
      clear hB hl
      go_enter Try.func99, Try.ntmps99
      go_wp2_with fail
      refine (HG _ (HE.out.up_ hb0)).out.mono ?_
      rintro e w1 ⟨rfl, hb1⟩
      have hbb : Below w.heap.size w w1 := hb0.trans (hb1.mono hb0.size)
      have hx1 := (Blk.new w 25 #[.int .i64 N, .slice A es.length c]).below hb1 (by simp)
      have c0 : w1.cell? ⟨w.heap.size, 0, none⟩ = some (.int .i64 N) := by rw [hx1.cell]; rfl
      have c1 : w1.cell? ⟨w.heap.size, 1, none⟩ = some (.slice A es.length c) := by rw [hx1.cell]; rfl
      have HS1 := Lib.hid (HS.out.up_ hbb)
      clear hb0 hb1 hx1
      go_wp2_with fail
      refine (HW _ _ HS1.out).out.mono ?_
      rintro e w' ⟨rfl, rfl⟩
      go_wp2
      go_ret
      exact ⟨rfl, hbb⟩
    · rw [divB_l hl]
      have t0 : ((d.length : Int) == N) = false := by simp [hl]
      clear hB hl
      go_enter Try.func99, Try.ntmps99
      go_wp2_with fail
      refine (HG _ (HE.out.up_ hb0)).out.mono ?_
      rintro e w1 ⟨rfl, hb1⟩
      have hbb : Below w.heap.size w w1 := hb0.trans (hb1.mono hb0.size)
      have hx1 := (Blk.new w 25 #[.int .i64 N, .slice A es.length c]).below hb1 (by simp)
      have c0 : w1.cell? ⟨w.heap.size, 0, none⟩ = some (.int .i64 N) := by rw [hx1.cell]; rfl
      have c1 : w1.cell? ⟨w.heap.size, 1, none⟩ = some (.slice A es.length c) := by rw [hx1.cell]; rfl
      clear hb0 hb1 hx1
      go_wp2
      go_ret
      exact ⟨rfl, hbb⟩
end Go.Proofs.Ytndncmjhpbjcoaa

/- The box of a graph that comes in; what a valid divisor has. -/
namespace Go.Proofs.Ytndncmjhpbjcoaa
open Go.RowKit

structure GB (w wc : World) (N : Int) (A : Option Addr) (c : Nat) (es : List (Int × Int)) : Prop where
  box : Blk wc w.heap.size 25 #[.int .i64 N, .slice A es.length c]
  old : Below w.heap.size w wc
section
variable {w wc wd : World} {N : Int} {A : Option Addr} {c : Nat} {es : List (Int × Int)}
theorem GB.c0 (h : GB w wc N A c es) : wc.cell? ⟨w.heap.size, 0, none⟩ = some (.int .i64 N) := by rw [h.box.cell]; rfl
theorem GB.c1 (h : GB w wc N A c es) : wc.cell? ⟨w.heap.size, 1, none⟩ = some (.slice A es.length c) := by rw [h.box.cell]; rfl
theorem GB.next (h : GB w wc N A c es) (hb : Below wc.heap.size wc wd) : GB w wd N A c es := ⟨h.box.below hb h.box.lt, h.old.trans (hb.mono h.old.size)⟩
theorem GB.lt (h : GB w wc N A c es) : w.heap.size < wc.heap.size := h.box.lt
theorem GB.start (w : World) (N : Int) (A : Option Addr) (c : Nat) (es : List (Int × Int)) : GB w (w.alloc (.cells #[.int .i64 N, .slice A es.length c] 25)) N A c es := ⟨Blk.new w _ _, (Below.refl _ _).alloc (Nat.le_refl _) _⟩
end
theorem div_limsB {N : Int} {es : List (Int × Int)} {d : List Int} (h : divB 60 N es d = true) : ∃ M : Nat, N = (M : Int) ∧ 0 < M ∧ M ≤ 6 ∧ es.length ≤ 12 ∧ d.length = M ∧ (∀ e ∈ es, 0 ≤ e.1 ∧ e.1 < e.2 ∧ e.2 < (M : Int)) ∧ (∀ u, -60 ≤ d.getD u 0 ∧ d.getD u 0 ≤ 60) ∧ Conn (M : Int) es := by
  obtain ⟨h1, h2, h3⟩ := divB_all h
  obtain ⟨h4, h5⟩ := graphB_all h1
  obtain ⟨h6, h7, h8⟩ := edgesB_lims h4
  obtain ⟨M, rfl⟩ : ∃ M : Nat, N = (M : Int) := ⟨N.toNat, by omega⟩
  refine ⟨M, rfl, by omega, by omega, h8, by omega, fun e he => all_edge h4 he, fun u => ?_, h5⟩
  cases hu : d[u]? with
  | none => simp [List.getD, hu]
  | some x =>
    have := h3 x (List.mem_of_getElem? hu)
    simp [List.getD, hu]
    omega
end Go.Proofs.Ytndncmjhpbjcoaa

/- The program's boardOf: a board with a copy of the chips. -/
namespace Go.Proofs.Ytndncmjhpbjcoaa
open Go.RowKit

theorem clone_any (D : Option Addr) (cd B : Nat) (d : List Int) (w : World) (h0 : 0 < d.length) (hd : d.length ≤ 1048576) (hS : IntS w B D d) :
    Calls Try.prog 81 #[.slice D d.length cd] w fun e w' => ∃ g cg : Nat, e = .returned (.slice (some ⟨g, 0, none⟩) d.length cg) ∧ w.heap.size ≤ g ∧ Chips w' g d ∧ Below w.heap.size w w' := by
  obtain ⟨b, off, rfl, hb, hc⟩ := hS h0
  refine (Try.slices_Clone_int b off d.length cd d w (Nat.le_refl _) (by omega) (fun j hj => by rw [hc j d[j] (List.getElem?_eq_getElem hj)]; simp [List.getD, List.getElem?_eq_getElem hj])).mono ?_
  rintro e w' ⟨v, rfl, hown, _, hbl⟩
  rw [List.take_length] at hown
  obtain ⟨g, cg, rfl, hg, hch⟩ := Chips.of_own (l := d) hown h0
  exact ⟨g, cg, rfl, hg, hch, hbl⟩

def GivesBoard (w : World) (A : Option Addr) (n c : Nat) (d : List Int) (e : Ending) (w' : World) : Prop :=
  ∃ p g cg : Nat, e = .returned (.pointer (some ⟨p, 0, none⟩)) ∧ Blk w' p 75 #[.slice A n c, .slice (some ⟨g, 0, none⟩) d.length cg] ∧ Chips w' g d ∧ w.heap.size ≤ g ∧ g < p ∧ Below w.heap.size w w'
set_option maxHeartbeats 1000000 in
theorem boardOf_any (N : Int) (A D : Option Addr) (n c cd : Nat) (d : List Int) (w : World) (h0 : 0 < d.length) (hd : d.length ≤ 1048576) (hS : IntS w w.heap.size D d) :
    Calls Try.prog 101 #[.agg #[.int .i64 N, .slice A n c], .slice D d.length cd] w (GivesBoard w A n c d) := by
  have HS := Lib.hid hS
  clear hS
  go_enter Try.func101, Try.ntmps101
  go_wp2_with fail
  obtain ⟨W0, hW0⟩ : ∃ X : World, X = w.alloc (Obj.cells #[.int .i64 N, .slice A n c] 25) := ⟨_, rfl⟩
  rw [← hW0]
  have hb0 : Below w.heap.size w W0 := by rw [hW0]; exact (Below.refl _ _).alloc (Nat.le_refl _) _
  have c1 : W0.cell? ⟨w.heap.size, 1, none⟩ = some (.slice A n c) := by rw [hW0, (Blk.new w _ _).cell]; rfl
  have l0 : w.heap.size < W0.heap.size := by rw [hW0]; simp
  clear hW0
  go_region_held3 (fun w' => w'.cell? ⟨w.heap.size, 1, none⟩ = some (.slice A n c) ∧ Below W0.heap.size W0 w')
    (first
      | exact ⟨c1, (Below.refl _ _).drew⟩
      | exact keepB (by assumption) hb2 l0
      | exact keepB (by assumption) ((Below.refl _ _).alloc (Nat.le_refl _) _) l0)
    ((go_at_call 81; refine (clone_any _ _ _ _ _ h0 hd (HS.out.up_ hb0.drew)).mono ?_; rintro e w2 ⟨g, cg, rfl, hg, hc, hb2⟩))
  have hs2 := hb2.size
  have hg2 : W0.heap.size ≤ g := hg
  have hgl := hc.lt
  have hbz : Below w.heap.size w (w2.alloc (Obj.cells #[.slice A n c, .slice (some ⟨g, 0, none⟩) d.length cg] 75)) := (hb0.drew.trans (hb2.mono hb0.size)).alloc (by have := hb0.size; omega) _
  have HC := Lib.hid (hc.below ((Below.refl _ _).alloc (Nat.le_refl _) (Obj.cells #[.slice A n c, .slice (some ⟨g, 0, none⟩) d.length cg] 75)))
  clear hc hb2
  go_wp2
  go_ret
  exact ⟨w2.heap.size, g, cg, rfl, Blk.new _ _ _, HC.out, by have := hb0.size; omega, hgl, hbz⟩
end Go.Proofs.Ytndncmjhpbjcoaa

/- BurnFrom and IsReduced: both sides, and what they call. -/
namespace Go.Proofs.Ytndncmjhpbjcoaa
open Go.RowKit

end Go.Proofs.Ytndncmjhpbjcoaa

/- Debts beside q: both sides; the vertices that are spared. -/
namespace Go.Proofs.Ytndncmjhpbjcoaa
open Go.RowKit

end Go.Proofs.Ytndncmjhpbjcoaa
