/- One text out of several: Mv FireI OwnK Blaze Burn BurnS DivB Div GBx FireB BurnF Debt. -/
import Derived.Test.YtdpojcgeblbfeaaVBA
import Derived.Test.YtdpojcgeblbfeaaVBG
import Derived.Test.YtdpojcgeblbfeaaVBF
import Derived.Test.YtdpojcgeblbfeaaVBB
import Derived.Test.YtdpojcgeblbfeaaVSh
import Derived.Deep.LoopGhost
import Derived.Test.YtdpojcgeblbfeaaVBC
set_option linter.all false
/- Steps that leave all blocks but a range, put together. -/
namespace Go.Proofs.Ytdpojcgeblbfeaa
open Go.RowKit
section
variable {w w' : World} {lo hi g : Nat}
theorem Moves.set_ (h : Moves g (g + 1) w w') (i : Nat) (u : Value) : Moves g (g + 1) w (w'.setCell ⟨g, i, none⟩ u) :=
  ⟨h.os, h.tape, h.output, by simpa [World.setCell] using h.size, fun k hk ho => (Below.heap_setCell w' ⟨g, i, none⟩ u k (by simp only; omega)).trans (h.block k hk ho)⟩
theorem Moves.refl (w : World) (lo hi : Nat) : Moves lo hi w w := ⟨rfl, rfl, rfl, Nat.le_refl _, fun _ _ _ => rfl⟩
theorem Moves.trans {w3 : World} (h : Moves lo hi w w') (k : Moves lo hi w' w3) : Moves lo hi w w3 :=
  ⟨k.os.trans h.os, k.tape.trans h.tape, k.output.trans h.output, Nat.le_trans h.size k.size, fun i hi2 ho => (k.block i (Nat.lt_of_lt_of_le hi2 h.size) ho).trans (h.block i hi2 ho)⟩
theorem Moves.alloc (h : Moves lo hi w w') (o : Obj) : Moves lo hi w (w'.alloc o) :=
  ⟨h.os, h.tape, h.output, by simp; have := h.size; omega, fun k hk ho => (Below.heap_alloc w' o k (Nat.lt_of_lt_of_le hk h.size)).trans (h.block k hk ho)⟩
theorem Moves.below {B : Nat} (h : Moves lo hi w w') (hB : B ≤ lo) (hs : B ≤ w.heap.size) : Below B w w' :=
  ⟨h.os, h.tape, h.output, h.size, fun i hi => h.block i (by omega) (.inl (by omega))⟩
end
end Go.Proofs.Ytdpojcgeblbfeaa

/- The program's board: send and fire. -/
namespace Go.Proofs.Ytdpojcgeblbfeaa
open Go.RowKit

structure Chips (w : World) (g : Nat) (l : List Int) : Prop where
  lt : g < w.heap.size
  cell : ∀ (i : Nat) (z : Int), l[i]? = some z → w.cell? ⟨g, i, none⟩ = some (.int .i64 z) ∧ w.frozen? ⟨g, i, none⟩ = false
section
variable {w w' : World} {g lo hi : Nat} {l : List Int}
theorem Chips.moves (h : Chips w g l) (m : Moves lo hi w w') (h1 : g < lo ∨ hi ≤ g) : Chips w' g l := by
  have hbl := m.block g h.lt h1
  exact ⟨Nat.lt_of_lt_of_le h.lt m.size, fun i z hz => ⟨(World.cell?_of_block (a := ⟨g, i, none⟩) hbl).trans (h.cell i z hz).1, (World.frozen?_of_block (a := ⟨g, i, none⟩) hbl).trans (h.cell i z hz).2⟩⟩
theorem Chips.below (h : Chips w g l) (hb : Below w.heap.size w w') : Chips w' g l := h.moves (belowMv hb 0) (.inr (Nat.zero_le _))
theorem Chips.set_ (h : Chips w g l) {a : Nat} (ha : a < l.length) (x : Int) : Chips (w.setCell ⟨g, a, none⟩ (.int .i64 x)) g (l.set a x) := by
  refine ⟨by simpa [World.setCell] using h.lt, fun i z hz => ?_⟩
  obtain ⟨h1, h2⟩ := h.cell a _ (List.getElem?_eq_getElem ha)
  by_cases e : i = a
  · subst e
    rw [List.getElem?_set_self ha] at hz
    injection hz with hz
    subst hz
    exact ⟨World.cell?_setCell_same _ _ _ h1, by rw [World.frozen?_setCell]; exact h2⟩
  · rw [List.getElem?_set_ne (Ne.symm e)] at hz
    obtain ⟨h3, h4⟩ := h.cell i z hz
    exact ⟨by rw [World.cell?_setCell_other _ _ _ _ (by simp only [ne_eq, Addr.mk.injEq]; omega)]; exact h3, by rw [World.frozen?_setCell]; exact h4⟩
theorem Chips.ints (h : Chips w g l) : IntS w w.heap.size (some ⟨g, 0, none⟩) l := fun _ => ⟨g, 0, rfl, h.lt, fun i z hz => by rw [Nat.zero_add]; exact (h.cell i z hz).1⟩
theorem Chips.own {base : Nat} (h : Chips w g l) (hg : base ≤ g) : OwnI w base (some ⟨g, 0, none⟩) l := fun _ => ⟨g, 0, rfl, hg, h.lt, fun i z hz => by rw [Nat.zero_add]; exact h.cell i z hz⟩
theorem Chips.of_own {base n : Nat} {v : Value} (h : w.ownsRow base 3 1 v n (intCells l)) (hn : 0 < n) : ∃ g c : Nat, v = .slice (some ⟨g, 0, none⟩) n c ∧ base ≤ g ∧ Chips w g l := by
  obtain ⟨hl, h⟩ := h
  rcases h with ⟨_, h0⟩ | ⟨g, cap, cur, hv, hb, hh, hnc, _, hcs, htk⟩
  · omega
  · have hblk : Blk w g 3 cur := hh
    refine ⟨g, cap, hv, hb, hblk.lt, fun i z hz => ⟨?_, hblk.frozen _⟩⟩
    have hi : i < l.length := (List.getElem?_eq_some_iff.1 hz).1
    have hln : l.length = n := by simpa [intCells] using hl
    rw [hblk.cell]
    have : (cur.toList.take (n * 1))[i]? = some (.int .i64 z) := by rw [htk]; simp [intCells, hz]
    rw [List.getElem?_take_of_lt (by omega)] at this
    simpa using this
end

def Sent (w : World) (g M : Nat) (f : Nat → Int) (e : Ending) (w' : World) : Prop := e = .returned (.tuple #[]) ∧ Chips w' g (chipsOf M f) ∧ Moves g (g + 1) w w'
set_option maxHeartbeats 400000 in
theorem send_any (p g M cg a b : Nat) (n cA : Nat) (A : Option Addr) (f : Nat → Int) (t : Int) (w : World) (hpg : p ≠ g) (ha : a < M) (hb : b < M) (hB : Blk w p 112 #[.slice A n cA, .slice (some ⟨g, 0, none⟩) M cg]) (hC : Chips w g (chipsOf M f)) :
    Calls Try.prog 216 #[.pointer (some ⟨p, 0, none⟩), .int .i64 (a : Int), .int .i64 (b : Int), .int .i64 t] w (Sent w g M (addAt (addAt f a (-t)) b t)) := by
  have c1 : w.cell? ⟨p, 1, none⟩ = some (.slice (some ⟨g, 0, none⟩) M cg) := by rw [hB.cell]; rfl
  obtain ⟨d0, f0⟩ := hC.cell a _ (chipsOf_at f ha)
  have hx0 : wrap64 (wrap64 (f a) - t) = wrap64 (f a + -t) := by rw [wrap64_subL, Int.sub_eq_add_neg]
  have hC1 := hC.set_ (a := a) (by rw [chipsOf_len]; exact ha) (wrap64 (wrap64 (f a) - t))
  rw [chipsOf_set M f a _ (-t) hx0] at hC1
  obtain ⟨d1, f1⟩ := hC1.cell b _ (chipsOf_at _ hb)
  have hx1 : wrap64 (wrap64 (addAt f a (-t) b) + t) = wrap64 (addAt f a (-t) b + t) := wrap64_addL _ _
  have hC2 := hC1.set_ (a := b) (by rw [chipsOf_len]; exact hb) (wrap64 (wrap64 (addAt f a (-t) b) + t))
  rw [chipsOf_set M _ b _ t hx1] at hC2
  have hM2 := ((Moves.refl w g (g + 1)).set_ a (.int .i64 (wrap64 (wrap64 (f a) - t)))).set_ b (.int .i64 (wrap64 (wrap64 (addAt f a (-t) b) + t)))
  have HC2 := Lib.hid hC2
  have HM2 := Lib.hid hM2
  have ha0 : (0 : Int) ≤ (a : Int) := Int.natCast_nonneg _
  have hb0 : (0 : Int) ≤ (b : Int) := Int.natCast_nonneg _
  have ha1 : (a : Int) < (M : Int) := by omega
  have hb1 : (b : Int) < (M : Int) := by omega
  have hgp : g ≠ p := Ne.symm hpg
  clear hC hC1 hC2 hM2 hx0 hx1 hB
  go_enter Try.func216, Try.ntmps216
  go_wp2
  go_end0
  exact ⟨rfl, HC2.out, HM2.out⟩

set_option maxHeartbeats 1000000 in
theorem fire_any (p g M cg cA B : Nat) (A : Option Addr) (es : List (Int × Int)) (f : Nat → Int) (v t : Int) (w : World) (hpg : p ≠ g) (hBg : B ≤ g) (hBw : B ≤ w.heap.size) (hn : es.length ≤ 12) (hes : ∀ e ∈ es, 0 ≤ e.1 ∧ e.1 < e.2 ∧ e.2 < (M : Int))
    (hB : Blk w p 112 #[.slice A es.length cA, .slice (some ⟨g, 0, none⟩) M cg]) (hC : Chips w g (chipsOf M f)) (hE : EdgeS w B A es) :
    Calls Try.prog 199 #[.pointer (some ⟨p, 0, none⟩), .int .i64 v, .int .i64 t] w (Sent w g M (fireF f v t es)) := by
  have b0 : w.cell? ⟨p, 0, none⟩ = some (.slice A es.length cA) := by rw [hB.cell]; rfl
  have HB := Lib.hid hB
  have HE := Lib.hid hE
  have HS := Lib.hid hes
  have HC := Lib.hid hC
  have HI := Lib.hid hpg
  clear hB hE hes hC hpg
  go_enter Try.func199, Try.ntmps199
  go_wp2
  go_loopw [13] (fun i wr => ∃ k : Nat, k ≤ es.length ∧ i = .int .i64 k ∧ Chips wr g (chipsOf M (fireF f v t (es.take k))) ∧ Moves g (g + 1) w wr) (fun i _ => es.length - (intOf i).toNat)
  case atStart => exact ⟨0, Nat.zero_le _, rfl, by rw [List.take_zero, fireF_nil]; exact HC.out, Moves.refl _ _ _⟩
  case round =>
    obtain ⟨k, hk, rfl, hch, hmv⟩ := hrel
    have HK := Lib.hid hch
    have HM := Lib.hid hmv
    clear hch hmv b0
    by_cases hlt : k < es.length
    · obtain ⟨b1, o1, e, rfl, hb1, he, hc0, hc1⟩ := (HE.out.below (HM.out.below hBg hBw)).at_ hlt
      obtain ⟨h1, h2, h3⟩ := HS.out e (List.mem_of_getElem? he)
      have HFS := fun u => Lib.hid (fireF_step f v t he u)
      clear he
      obtain ⟨x, y⟩ := e
      simp only at h1 h2 h3 hc0 hc1 HFS
      obtain ⟨a, rfl⟩ : ∃ a : Nat, x = (a : Int) := ⟨x.toNat, by omega⟩
      obtain ⟨b, rfl⟩ : ∃ b : Nat, y = (b : Int) := ⟨y.toNat, by omega⟩
      have hi0 : (0 : Int) ≤ (k : Int) := Int.natCast_nonneg _
      have hi1 : (k : Int) < (es.length : Int) := by omega
      have ha : a < M := by omega
      have hb : b < M := by omega
      have hab : a ≠ b := by omega
      have HAB := Lib.hid hab
      have hmA : Moves g (g + 1) wr (wr.alloc (Obj.cells #[.int .i64 (a : Int), .int .i64 (b : Int)] 121)) := (Moves.refl _ _ _).alloc _
      have HCA := Lib.hid (HK.out.below ((Below.refl _ _).alloc (Nat.le_refl _) (Obj.cells #[.int .i64 (a : Int), .int .i64 (b : Int)] 121)))
      have HBA := Lib.hid ((HB.out.moves HM.out (by have := HI.out; omega)).moves hmA (by have := HI.out; omega))
      have HMA := Lib.hid (HM.out.trans hmA)
      clear hab hmA h1 h2 h3
      by_cases hv1 : v = (a : Int)
      · have t1 : (v == (a : Int)) = true := by simp [hv1]
        have HF : Hid (chipsOf M (addAt (addAt (fireF f v t (es.take k)) a (-t)) b t) = chipsOf M (fireF f v t (es.take (k + 1)))) := Lib.hid (chipsOf_eq fun u _ => by
          rw [send_f _ _ _ _ HAB.out, (HFS u).out, net_1 (v := v) (e := ((a : Int), (b : Int))) hv1])
        clear HFS hv1
        go_wp2_with fail
        refine (send_any p g M cg a b _ _ _ _ t _ HI.out ha hb HBA.out HCA.out).mono ?_
        rintro e w2 ⟨rfl, hc2, hm2⟩
        rw [HF.out] at hc2
        have HC2 := Lib.hid hc2
        have HM2 := Lib.hid (HMA.out.trans hm2)
        clear hc2 hm2
        go_wp2
        exact ⟨⟨k + 1, by omega, by go_num, HC2.out, HM2.out⟩, by simp [intOf]; omega⟩
      · have t1 : (v == (a : Int)) = false := by simp [hv1]
        by_cases hv2 : v = (b : Int)
        · have t2 : (v == (b : Int)) = true := by simp [hv2]
          have HF : Hid (chipsOf M (addAt (addAt (fireF f v t (es.take k)) b (-t)) a t) = chipsOf M (fireF f v t (es.take (k + 1)))) := Lib.hid (chipsOf_eq fun u _ => by
            rw [send_f _ _ _ _ (Ne.symm HAB.out), (HFS u).out, net_2 (v := v) (e := ((a : Int), (b : Int))) hv1 hv2])
          clear HFS hv1 hv2
          go_wp2_with fail
          refine (send_any p g M cg b a _ _ _ _ t _ HI.out hb ha HBA.out HCA.out).mono ?_
          rintro e w2 ⟨rfl, hc2, hm2⟩
          rw [HF.out] at hc2
          have HC2 := Lib.hid hc2
          have HM2 := Lib.hid (HMA.out.trans hm2)
          clear hc2 hm2
          go_wp2
          exact ⟨⟨k + 1, by omega, by go_num, HC2.out, HM2.out⟩, by simp [intOf]; omega⟩
        · have t2 : (v == (b : Int)) = false := by simp [hv2]
          have HF : Hid (chipsOf M (fireF f v t (es.take k)) = chipsOf M (fireF f v t (es.take (k + 1)))) := Lib.hid (chipsOf_eq fun u _ => by
            rw [(HFS u).out, net_0 (v := v) (e := ((a : Int), (b : Int))) hv1 hv2]; simp)
          clear HFS hv1 hv2
          have hcA := HCA.out
          rw [HF.out] at hcA
          have HCA2 := Lib.hid hcA
          clear hcA
          go_wp2
          exact ⟨⟨k + 1, by omega, by go_num, HCA2.out, HMA.out⟩, by simp [intOf]; omega⟩
    · have hK2 := HK.out
      rw [List.take_of_length_le (by omega)] at hK2
      have HK2 := Lib.hid hK2
      clear hK2
      go_wp2
      go_end0
      exact ⟨rfl, HK2.out, HM.out⟩
end Go.Proofs.Ytdpojcgeblbfeaa

/- Rows of one's own, kept. -/
namespace Go.Proofs.Ytdpojcgeblbfeaa
open Go.RowKit

theorem own_below {w w' : World} {base n : Nat} {t : TypeId} {v : Value} {xs : List Value} (h : w.ownsRow base t 1 v n xs) (hb : Below w.heap.size w w') : w'.ownsRow base t 1 v n xs := h.kept (row := none) ⟨hb.os, hb.tape, hb.output, hb.size, fun i hi _ => hb.block i hi⟩ (Classical.em _)
end Go.Proofs.Ytdpojcgeblbfeaa

/- The program's fire: light, burns, catches. -/
namespace Go.Proofs.Ytdpojcgeblbfeaa
open Go.RowKit

theorem own_moves {w w' : World} {base lo hi n : Nat} {t : TypeId} {v : Value} {xs : List Value} (h : w.ownsRow base t 1 v n xs) (m : Moves lo hi w w') (h1 : hi ≤ base) : w'.ownsRow base t 1 v n xs := by
  refine ⟨h.1, ?_⟩
  rcases h.2 with g | ⟨g, cap, cur, hv, hb, hh, rest⟩
  · exact .inl g
  · refine .inr ⟨g, cap, cur, hv, hb, ?_, rest⟩
    rw [m.block g (Array.getElem?_eq_some_iff.1 hh).1 (.inr (by omega))]
    exact hh
structure Blaze (w : World) (B base pf gh ch pb M : Nat) (ord : List Int) (h : Nat → Int) : Prop where
  box : ∃ (O : Option Addr) (co : Nat), Blk w pf 162 #[.pointer (some ⟨pb, 0, none⟩), .slice O ord.length co, .slice (some ⟨gh, 0, none⟩) M ch] ∧ w.ownsRow base 3 1 (.slice O ord.length co) ord.length (intCells ord)
  heat : Chips w gh (chipsOf M h)
  lo1 : B ≤ gh
  lo2 : B ≤ pf
  lt1 : gh < base
  lt2 : pf < base
  ne : gh ≠ pf
  size : base ≤ w.heap.size
theorem Blaze.below {w w' : World} {B base pf gh ch pb M : Nat} {ord : List Int} {h : Nat → Int} (z : Blaze w B base pf gh ch pb M ord h) (hb : Below w.heap.size w w') : Blaze w' B base pf gh ch pb M ord h := by
  obtain ⟨O, co, h1, h2⟩ := z.box
  refine ⟨⟨O, co, h1.below hb h1.lt, ?_⟩, z.heat.below hb, z.lo1, z.lo2, z.lt1, z.lt2, z.ne, Nat.le_trans z.size hb.size⟩
  refine ⟨h2.1, ?_⟩
  rcases h2.2 with g | ⟨g, cap, cur, hv, hbb, hh, rest⟩
  · exact .inl g
  · refine .inr ⟨g, cap, cur, hv, hbb, ?_, rest⟩
    rw [hb.block g (Array.getElem?_eq_some_iff.1 hh).1]
    exact hh
theorem Blaze.drew {w : World} {B base pf gh ch pb M : Nat} {ord : List Int} {h : Nat → Int} (z : Blaze w B base pf gh ch pb M ord h) : Blaze w.drew B base pf gh ch pb M ord h := z.below (Below.refl _ _).drew
theorem Blaze.heat_set {w : World} {B base pf gh ch pb M : Nat} {ord : List Int} {h h2 : Nat → Int} (z : Blaze w B base pf gh ch pb M ord h) {a : Nat} {x : Int} (hc : Chips (w.setCell ⟨gh, a, none⟩ (.int .i64 x)) gh (chipsOf M h2)) : Blaze (w.setCell ⟨gh, a, none⟩ (.int .i64 x)) B base pf gh ch pb M ord h2 := by
  obtain ⟨O, co, h1, h3⟩ := z.box
  have hm : Moves gh (gh + 1) w (w.setCell ⟨gh, a, none⟩ (.int .i64 x)) := (Moves.refl w gh (gh + 1)).set_ a _
  exact ⟨⟨O, co, h1.moves hm (by have := z.ne; omega), own_moves h3 hm (by have := z.lt1; omega)⟩, hc, z.lo1, z.lo2, z.lt1, z.lt2, z.ne, by simpa [World.setCell] using z.size⟩
theorem Blaze.congr {w : World} {B base pf gh ch pb M : Nat} {ord : List Int} {h h2 : Nat → Int} (z : Blaze w B base pf gh ch pb M ord h) (e : ∀ u, h u = h2 u) : Blaze w B base pf gh ch pb M ord h2 := by
  rw [show h = h2 from funext e] at z
  exact z
theorem warm_add1 (h : Nat → Int) (v : Int) {es : List (Int × Int)} {k : Nat} {a b : Nat} (he : es[k]? = some ((a : Int), (b : Int))) (e : v = (a : Int)) (u : Nat) : addAt (fun u => h u + warms v u (es.take k)) b 1 u = h u + warms v u (es.take (k + 1)) := by
  rw [warms_snoc v u he, warm, if_pos e, addAt]
  unfold ind
  by_cases g : u = b
  · subst g
    rw [if_pos rfl, if_pos rfl]; omega
  · rw [if_neg g, if_neg (by omega)]; omega
theorem warm_add2 (h : Nat → Int) (v : Int) {es : List (Int × Int)} {k : Nat} {a b : Nat} (he : es[k]? = some ((a : Int), (b : Int))) (e1 : v ≠ (a : Int)) (e : v = (b : Int)) (u : Nat) : addAt (fun u => h u + warms v u (es.take k)) a 1 u = h u + warms v u (es.take (k + 1)) := by
  rw [warms_snoc v u he, warm, if_neg e1, if_pos e, addAt]
  unfold ind
  by_cases g : u = a
  · subst g
    rw [if_pos rfl, if_pos rfl]; omega
  · rw [if_neg g, if_neg (by omega)]; omega
theorem warm_add0 (h : Nat → Int) (v : Int) {es : List (Int × Int)} {k : Nat} {a b : Nat} (he : es[k]? = some ((a : Int), (b : Int))) (e1 : v ≠ (a : Int)) (e2 : v ≠ (b : Int)) (u : Nat) : h u + warms v u (es.take k) = h u + warms v u (es.take (k + 1)) := by
  rw [warms_snoc v u he, warm, if_neg e1, if_neg e2]; omega

set_option maxRecDepth 100000 in
set_option maxHeartbeats 4000000 in
theorem light_any (B base pf gh ch pb M cA : Nat) (A : Option Addr) (es : List (Int × Int)) (ord : List Int) (h : Nat → Int) (v : Nat) (G : Value) (w : World) (hn : es.length ≤ 12) (ho : ord.length ≤ 6) (hes : ∀ e ∈ es, 0 ≤ e.1 ∧ e.1 < e.2 ∧ e.2 < (M : Int))
    (hpb : pb < B) (hB : Blk w pb 112 #[.slice A es.length cA, G]) (hE : EdgeS w B A es) (hZ : Blaze w B base pf gh ch pb M ord h) :
    Calls Try.prog 168 #[.pointer (some ⟨pf, 0, none⟩), .int .i64 (v : Int)] w fun e w' => e = .returned (.tuple #[]) ∧ Blaze w' B base pf gh ch pb M (ord ++ [(v : Int)]) (fun u => h u + warms (v : Int) u es) ∧ Below B w w' := by
  obtain ⟨i0, hi, hz0, hz1, hz2⟩ := info_parts intInfo
  obtain ⟨O, co, hbx, hown⟩ := hZ.box
  have HB := Lib.hid hB
  have HE := Lib.hid hE
  have HES := Lib.hid hes
  have HZ := Lib.hid hZ
  have HO := Lib.hid hown
  have HX := Lib.hid hbx
  have hsz := hZ.size
  have hl1 := hZ.lo1
  have hl2 := hZ.lo2
  have hl3 := hZ.lt1
  have hl4 := hZ.lt2
  have hl5 := hZ.ne
  have q0 : w.cell? ⟨pf, 1, none⟩ = some (.slice O ord.length co) := by rw [hbx.cell]; rfl
  have hfz := hbx.frozen 1
  clear hB hE hes hZ hown hbx
  go_enter Try.func168, Try.ntmps168
  go_wp2_with (at_builtin; refine wpList_append_own _ rfl _ _ 28 rfl base 3 i0 (.int .i64 0) 1 8 Try.underlying28 hi hz0 hz1 hz2 rfl (by decide) _ _ _ rfl (own_moves HO.out ((belowMv ((Below.refl _ _).alloc (Nat.le_refl _) _) 0)) (Nat.zero_le _)) ⟨w.heap.size, 0, none⟩ 1 1 [.int .i64 (v : Int)] rfl rfl ?c1 ?c2 ?c3 ?c4 ?c5 ?_)
  case c1 => exact one_cell _ _ (by simp) _ _
  case c2 => simp [Value.oneCell']
  case c3 => unfold maxLen; omega
  case c4 => omega
  case c5 => simp; omega
  intro v' w1 hown' hgrow _
  have hown2 : w1.ownsRow base 3 1 v' (ord.length + 1) (intCells (ord ++ [(v : Int)])) := by rw [← cells_snoc]; exact hown'
  obtain ⟨A3, c3, hv3, hlen⟩ := own_slice hown2
  obtain ⟨n1, hn1⟩ : ∃ n1, n1 = (ord ++ [(v : Int)]).length := ⟨_, rfl⟩
  rw [← hn1] at hv3 hlen
  subst hv3
  have hb0 : Below B w (w.alloc (.cells #[.int .i64 (v : Int)] 3)) := (Below.refl _ _).alloc (by omega) _
  have hb1 : Below B w w1 := hb0.grown hgrow (by simp; omega) (fun q hq => by have := (HO.out.lt q hq).1; omega)
  have hs1 := hgrow.size
  rw [World.size_alloc] at hs1
  have hx1 := ((HX.out.alloc (.cells #[.int .i64 (v : Int)] 3)).grown hgrow (by
    intro hq
    have := (HO.out.lt pf hq).1
    omega))
  have hc1 : Chips w1 gh (chipsOf M h) := by
    have hq : w1.heap[gh]? = w.heap[gh]? := by
      rw [hgrow.block gh (by rw [World.size_alloc]; have := HZ.out.heat.lt; omega) (by
        intro hq
        have := (HO.out.lt gh hq.symm).1
        omega)]
      exact Below.heap_alloc w _ gh HZ.out.heat.lt
    have hz := HZ.out.heat
    exact ⟨by have := hz.lt; omega, fun i z hi => ⟨(World.cell?_of_block (a := ⟨gh, i, none⟩) hq).trans (hz.cell i z hi).1, (World.frozen?_of_block (a := ⟨gh, i, none⟩) hq).trans (hz.cell i z hi).2⟩⟩
  have q1 : w1.cell? ⟨pf, 1, none⟩ = some (.slice O ord.length co) := by rw [hx1.cell]; rfl
  have hf1 := hx1.frozen 1
  have hx2 := hx1.set_ 1 (.slice A3 n1 c3)
  have hmv : Moves pf (pf + 1) w1 (w1.setCell ⟨pf, 1, none⟩ (.slice A3 n1 c3)) := (Moves.refl w1 pf (pf + 1)).set_ 1 _
  have hz2 : Blaze (w1.setCell ⟨pf, 1, none⟩ (.slice A3 n1 c3)) B base pf gh ch pb M (ord ++ [(v : Int)]) h :=
    ⟨⟨A3, c3, by rw [← hn1]; exact hx2, by have := own_moves hown2 hmv (by omega); rw [hlen] at this; rw [← hn1]; exact this⟩, hc1.moves hmv (by omega), hl1, hl2, hl3, hl4, hl5, by simp [World.setCell]; omega⟩
  have hb2 : Below B w (w1.setCell ⟨pf, 1, none⟩ (.slice A3 n1 c3)) := hb1.setCell (p := ⟨pf, 1, none⟩) hl2 _
  obtain ⟨W1, hW1⟩ : ∃ X : World, X = w1.setCell ⟨pf, 1, none⟩ (.slice A3 n1 c3) := ⟨_, rfl⟩
  rw [← hW1] at hz2 hb2
  have HZ2 := Lib.hid hz2
  have HB2 := Lib.hid hb2
  have HB1 := Lib.hid (HB.out.below hb2 hpb)
  have HW1 := Lib.hid hW1
  have r0 : (w1.setCell ⟨pf, 1, none⟩ (.slice A3 n1 c3)).cell? ⟨pf, 0, none⟩ = some (.pointer (some ⟨pb, 0, none⟩)) := by
    rw [← HW1.out]
    obtain ⟨_, _, g, _⟩ := HZ2.out.box
    rw [g.cell]; rfl
  have r1 : (w1.setCell ⟨pf, 1, none⟩ (.slice A3 n1 c3)).cell? ⟨pb, 0, none⟩ = some (.slice A es.length cA) := by rw [← HW1.out, HB1.out.cell]; rfl
  clear hown' hown2 hgrow hx1 hx2 hc1 hmv hz2 hW1 hb0 hb1 hs1 q0 hlen hn1
  go_wp2
  go_loopw [24] (fun i wr => ∃ k : Nat, k ≤ es.length ∧ i = .int .i64 k ∧ Blaze wr B base pf gh ch pb M (ord ++ [(v : Int)]) (fun u => h u + warms (v : Int) u (es.take k)) ∧ Below B w wr) (fun i _ => es.length - (intOf i).toNat)
  case atStart => exact ⟨0, Nat.zero_le _, rfl, by rw [← HW1.out]; exact HZ2.out.congr (fun u => by simp [warms]), by rw [← HW1.out]; exact HB2.out⟩
  case round =>
    obtain ⟨k, hk, rfl, hzr, hbr⟩ := hrel
    have HZR := Lib.hid hzr
    have HBR := Lib.hid hbr
    clear hzr hbr r0 r1 q1 hf1
    by_cases hlt : k < es.length
    · obtain ⟨b1, o1, e, rfl, hb1, he, hc0, hc1⟩ := (HE.out.below HBR.out).at_ hlt
      obtain ⟨h1, h2, h3⟩ := HES.out e (List.mem_of_getElem? he)
      obtain ⟨x, y⟩ := e
      simp only at h1 h2 h3 hc0 hc1
      obtain ⟨a, rfl⟩ : ∃ a : Nat, x = (a : Int) := ⟨x.toNat, by omega⟩
      obtain ⟨b, rfl⟩ : ∃ b : Nat, y = (b : Int) := ⟨y.toNat, by omega⟩
      have hi0 : (0 : Int) ≤ (k : Int) := Int.natCast_nonneg _
      have hi1 : (k : Int) < (es.length : Int) := by omega
      have ha : a < M := by omega
      have hb : b < M := by omega
      have ha0 : (0 : Int) ≤ (a : Int) := Int.natCast_nonneg _
      have hb0 : (0 : Int) ≤ (b : Int) := Int.natCast_nonneg _
      have ha1 : (a : Int) < (M : Int) := by omega
      have hb1 : (b : Int) < (M : Int) := by omega
      have hsw : B ≤ wr.heap.size := by have := HZR.out.size; have := HZR.out.lt1; omega
      have hbA : Below wr.heap.size wr (wr.alloc (Obj.cells #[.int .i64 (a : Int), .int .i64 (b : Int)] 121)) := (Below.refl _ _).alloc (Nat.le_refl _) _
      have hZA := HZR.out.below hbA
      have hBA : Below B w (wr.alloc (Obj.cells #[.int .i64 (a : Int), .int .i64 (b : Int)] 121)) := HBR.out.alloc hsw _
      have hEA := Blk.new wr 121 #[.int .i64 (a : Int), .int .i64 (b : Int)]
      obtain ⟨Or, cr, hxr, _⟩ := hZA.box
      have p0 : (wr.alloc (Obj.cells #[.int .i64 (a : Int), .int .i64 (b : Int)] 121)).cell? ⟨pf, 2, none⟩ = some (.slice (some ⟨gh, 0, none⟩) M ch) := by rw [hxr.cell]; rfl
      have HE0 := Lib.hid he
      have HZA := Lib.hid hZA
      have HBA := Lib.hid hBA
      clear he hxr hZA hBA hbA hEA h1 h2 h3
      by_cases hv1 : (v : Int) = (a : Int)
      · have t1 : ((v : Int) == (a : Int)) = true := by simp [hv1]
        obtain ⟨d0, f0⟩ := HZA.out.heat.cell b _ (chipsOf_at _ hb)
        have hc := HZA.out.heat.set_ (a := b) (by rw [chipsOf_len]; exact hb) (wrap64 (wrap64 (h b + warms (v : Int) b (es.take k)) + 1))
        rw [chipsOf_set M _ b _ 1 (wrap64_addL _ _)] at hc
        have HZN := Lib.hid (((HZA.out.heat_set hc).congr (warm_add1 h (v : Int) HE0.out hv1)))
        have HBN := Lib.hid (HBA.out.setCell (p := ⟨gh, b, none⟩) hl1 (.int .i64 (wrap64 (wrap64 (h b + warms (v : Int) b (es.take k)) + 1))))
        clear hc hv1
        go_wp2_with fail
        go_region
        go_wp2
        exact ⟨⟨k + 1, by omega, by go_num, HZN.out.drew, HBN.out.drew⟩, by simp [intOf]; omega⟩
      · have t1 : ((v : Int) == (a : Int)) = false := by simp; omega
        by_cases hv2 : (v : Int) = (b : Int)
        · have t2 : ((v : Int) == (b : Int)) = true := by simp [hv2]
          obtain ⟨d0, f0⟩ := HZA.out.heat.cell a _ (chipsOf_at _ ha)
          have hc := HZA.out.heat.set_ (a := a) (by rw [chipsOf_len]; exact ha) (wrap64 (wrap64 (h a + warms (v : Int) a (es.take k)) + 1))
          rw [chipsOf_set M _ a _ 1 (wrap64_addL _ _)] at hc
          have HZN := Lib.hid (((HZA.out.heat_set hc).congr (warm_add2 h (v : Int) HE0.out hv1 hv2)))
          have HBN := Lib.hid (HBA.out.setCell (p := ⟨gh, a, none⟩) hl1 (.int .i64 (wrap64 (wrap64 (h a + warms (v : Int) a (es.take k)) + 1))))
          clear hc hv1 hv2
          go_wp2_with fail
          go_region
          go_wp2
          exact ⟨⟨k + 1, by omega, by go_num, HZN.out.drew, HBN.out.drew⟩, by simp [intOf]; omega⟩
        · have t2 : ((v : Int) == (b : Int)) = false := by simp; omega
          have HZN := Lib.hid (HZA.out.congr (warm_add0 h (v : Int) HE0.out hv1 hv2))
          clear hv1 hv2
          go_wp2
          exact ⟨⟨k + 1, by omega, by go_num, HZN.out, HBA.out⟩, by simp [intOf]; omega⟩
    · have hz := HZR.out
      rw [List.take_of_length_le (by omega)] at hz
      have HZN := Lib.hid hz
      clear hz
      go_wp2
      go_end0
      exact ⟨rfl, HZN.out, HBR.out⟩
theorem inL_contains (l : List Int) (v : Int) : l.contains v = inL l v := by simp [inL]
set_option maxHeartbeats 1000000 in
theorem burns_any (B base pf gh ch pb M : Nat) (ord : List Int) (h : Nat → Int) (v : Int) (w : World) (ho : ord.length ≤ 6) (h0 : 0 < ord.length) (hZ : Blaze w B base pf gh ch pb M ord h) :
    Calls Try.prog 170 #[.pointer (some ⟨pf, 0, none⟩), .int .i64 v] w fun e w' => e = .returned (.bool (inL ord v)) ∧ w' = w := by
  obtain ⟨O, co, hbx, hown⟩ := hZ.box
  have q1 : w.cell? ⟨pf, 1, none⟩ = some (.slice O ord.length co) := by rw [hbx.cell]; rfl
  obtain ⟨bO, oO, rfl, _, hc⟩ := (OwnI.of_own hown).ints h0
  have HC := Lib.hid (show Calls Try.prog 98 #[.slice (some ⟨bO, oO, none⟩) ord.length co, .int .i64 v] w fun e w' => e = .returned (.bool (inL ord v)) ∧ w' = w by
    have := Try.slices_Contains_int bO oO ord.length co ord v w (Nat.le_refl _) (by omega) (fun j hj => by rw [hc j ord[j] (List.getElem?_eq_getElem hj)]; simp [List.getD, List.getElem?_eq_getElem hj])
    rw [List.take_length, inL_contains] at this
    exact this)
  clear hZ hbx hown hc
  go_enter Try.func170, Try.ntmps170
  go_wp2_with fail
  refine HC.out.mono ?_
  rintro e w' ⟨rfl, rfl⟩
  go_wp2
  go_ret
  exact ⟨rfl, rfl⟩
def catchH (d : List Int) (h : Nat → Int) (ord : List Int) (v : Nat) : Bool := decide (d.getD v 0 < h v) && !inL ord (v : Int)
set_option maxHeartbeats 1000000 in
theorem catches_any (B base pf gh ch pb M g cg : Nat) (E : Value) (d ord : List Int) (h : Nat → Int) (v : Nat) (w : World) (hv : v < M) (hd : d.length = M) (ho : ord.length ≤ 6) (h0 : 0 < ord.length) (hw : ∀ u, u < M → wrap64 (h u) = h u)
    (hB : Blk w pb 112 #[E, .slice (some ⟨g, 0, none⟩) M cg]) (hC : Chips w g d) (hZ : Blaze w B base pf gh ch pb M ord h) :
    Calls Try.prog 169 #[.pointer (some ⟨pf, 0, none⟩), .int .i64 (v : Int)] w fun e w' => e = .returned (.bool (catchH d h ord v)) ∧ Below w.heap.size w w' := by
  obtain ⟨O, co, hbx, hown⟩ := hZ.box
  have q0 : w.cell? ⟨pf, 0, none⟩ = some (.pointer (some ⟨pb, 0, none⟩)) := by rw [hbx.cell]; rfl
  have q2 : w.cell? ⟨pf, 2, none⟩ = some (.slice (some ⟨gh, 0, none⟩) M ch) := by rw [hbx.cell]; rfl
  have q3 : w.cell? ⟨pb, 1, none⟩ = some (.slice (some ⟨g, 0, none⟩) M cg) := by rw [hB.cell]; rfl
  have q4 : w.cell? ⟨gh, v, none⟩ = some (.int .i64 (h v)) := by rw [(hZ.heat.cell v _ (chipsOf_at _ hv)).1, hw v hv]
  have hvd : v < d.length := by omega
  obtain ⟨x, hx⟩ : ∃ x, x = d.getD v 0 := ⟨_, rfl⟩
  have q5 : w.cell? ⟨g, v, none⟩ = some (.int .i64 x) := by rw [(hC.cell v _ (List.getElem?_eq_getElem hvd)).1, hx]; simp [List.getD, List.getElem?_eq_getElem hvd]
  have hv0 : (0 : Int) ≤ (v : Int) := Int.natCast_nonneg _
  have hv1 : (v : Int) < (M : Int) := by omega
  have HB := fun w' hb => Lib.hid (burns_any B base pf gh ch pb M ord h (v : Int) w' ho h0 (hZ.below hb))
  rw [catchH, ← hx]
  obtain ⟨y, hy⟩ : ∃ y, y = h v := ⟨_, rfl⟩
  rw [← hy] at q4 ⊢
  obtain ⟨bb, hbb⟩ : ∃ b, b = inL ord (v : Int) := ⟨_, rfl⟩
  rw [← hbb] at HB ⊢
  clear hx hy hbb hbx hown hZ hC hB hw hvd
  by_cases hl : x < y
  · have t1 : decide (x < y) = true := decide_eq_true hl
    go_enter Try.func169, Try.ntmps169
    go_wp2_with fail
    go_quiet (first | (go_at_call 170; exact Calls.quiet_of_same (HB _ (below_drewN (Below.refl _ _) _)).out))
    go_wp2
    go_ret
    exact ⟨ret_boolE (by simp [t1]), below_drewN (Below.refl _ _) _⟩
  · have t1 : decide (x < y) = false := decide_eq_false hl
    go_enter Try.func169, Try.ntmps169
    go_wp2_with fail
    go_quiet (fail)
    go_wp2
    go_ret
    exact ⟨ret_boolE (by simp [t1]), below_drewN (Below.refl _ _) _⟩
end Go.Proofs.Ytdpojcgeblbfeaa

/- The program's burn: which vertices burn, in their order. -/
namespace Go.Proofs.Ytdpojcgeblbfeaa
open Go.RowKit

theorem Chips.of_blk {w : World} {g : Nat} {t : TypeId} {l : List Int} (h : Blk w g t (intCells l).toArray) : Chips w g l := ⟨h.lt, fun i z hz => ⟨by rw [h.cell]; simp [intCells, hz], h.frozen _⟩⟩
theorem chips_zero (M : Nat) : intCells (List.replicate M 0) = intCells (chipsOf M fun _ => 0) := by
  apply List.ext_getElem?
  intro u
  by_cases h : u < M
  · simp [intCells, chipsOf, h]
    exact (wrap64_of (by omega) (by omega)).symm
  · rw [List.getElem?_eq_none (by simp [intCells]; omega), List.getElem?_eq_none (by simp [intCells, chipsOf_len]; omega)]
def HeatIs (es : List (Int × Int)) (ord : List Int) (h : Nat → Int) : Prop := ∀ u, h u = heat (inL ord) u es
theorem HeatIs.push {es : List (Int × Int)} {ord : List Int} {h : Nat → Int} {v : Nat} (hh : HeatIs es ord h) (hn : ¬ (v : Int) ∈ ord) (hes : ∀ e ∈ es, e.1 < e.2) : HeatIs es (ord ++ [(v : Int)]) (fun u => h u + warms (v : Int) u es) := fun u => by
  show h u + warms (v : Int) u es = _
  rw [inL_snoc, heat_light (inL ord) (v : Int) (by simp [inL, hn]) u es hes, hh u]
theorem HeatIs.nil (es : List (Int × Int)) : HeatIs es [] (fun _ => 0) := fun u => (heat_none (fun x => by simp [inL]) u es).symm
theorem HeatIs.catch_ {es : List (Int × Int)} {d ord : List Int} {h : Nat → Int} (hh : HeatIs es ord h) (v : Nat) : catchH d h ord v = catchV es d ord v := by rw [catchH, catchV, hh v]
theorem HeatIs.wrap_ {es : List (Int × Int)} {ord : List Int} {h : Nat → Int} (hh : HeatIs es ord h) (hn : es.length ≤ 12) (u : Nat) : wrap64 (h u) = h u := by
  have := heat_lo (inL ord) u es
  rw [hh u]
  exact wrap64_of (by omega) (by omega)
def GivesFire (w : World) (M : Nat) (es : List (Int × Int)) (d : List Int) (q : Int) (pb : Nat) (e : Ending) (w' : World) : Prop :=
  ∃ (base pf gh ch : Nat) (h : Nat → Int), e = .returned (.pointer (some ⟨pf, 0, none⟩)) ∧ Blaze w' w.heap.size base pf gh ch pb M (burntL M es d q) h ∧ HeatIs es (burntL M es d q) h ∧ Below w.heap.size w w'
set_option maxRecDepth 100000 in
set_option maxHeartbeats 4000000 in
theorem burn_any (pb g cg cA M q : Nat) (A : Option Addr) (es : List (Int × Int)) (d : List Int) (w : World) (hM0 : 0 < M) (hM : M ≤ 6) (hq : q < M) (hd : d.length = M) (hn : es.length ≤ 12) (hes : ∀ e ∈ es, 0 ≤ e.1 ∧ e.1 < e.2 ∧ e.2 < (M : Int))
    (hpb : pb < w.heap.size) (hB : Blk w pb 112 #[.slice A es.length cA, .slice (some ⟨g, 0, none⟩) M cg]) (hC : Chips w g d) (hE : EdgeS w w.heap.size A es) :
    Calls Try.prog 118 #[.pointer (some ⟨pb, 0, none⟩), .int .i64 (q : Int)] w (GivesFire w M es d (q : Int) pb) := by
  have hmk := make_ints M (by omega)
  have q0 : w.cell? ⟨pb, 1, none⟩ = some (.slice (some ⟨g, 0, none⟩) M cg) := by rw [hB.cell]; rfl
  have hgl := hC.lt
  have HB := Lib.hid hB
  have HC := Lib.hid hC
  have HE := Lib.hid hE
  have HES := Lib.hid hes
  have HD := Lib.hid hd
  have hM1 : (0 : Int) ≤ (M : Int) := Int.natCast_nonneg _
  -- the new fire
  obtain ⟨W0, hW0⟩ : ∃ X : World, X = (w.alloc (.cells (intCells (List.replicate M 0)).toArray 3)).alloc (.cells #[.pointer (some ⟨pb, 0, none⟩), .slice none 0 0, .slice (some ⟨w.heap.size, 0, none⟩) M M] 162) := ⟨_, rfl⟩
  have hb0 : Below w.heap.size w W0 := by rw [hW0]; exact ((Below.refl _ _).alloc (Nat.le_refl _) _).alloc (by simp) _
  have hz0 : Blaze W0 w.heap.size (w.heap.size + 2) (w.heap.size + 1) w.heap.size M pb M [] (fun _ => 0) := by
    have h1 := Blk.new w 3 (intCells (List.replicate M 0)).toArray
    rw [chips_zero] at h1
    have h2 := Blk.new (w.alloc (.cells (intCells (List.replicate M 0)).toArray 3)) 162 #[.pointer (some ⟨pb, 0, none⟩), .slice none 0 0, .slice (some ⟨w.heap.size, 0, none⟩) M M]
    rw [World.size_alloc, ← hW0] at h2
    refine ⟨⟨none, 0, h2, ⟨rfl, .inl ⟨rfl, rfl⟩⟩⟩, ?_, Nat.le_refl _, by omega, by omega, by omega, by omega, by rw [hW0]; simp⟩
    rw [hW0, chips_zero]
    exact (Chips.of_blk h1).below ((Below.refl _ _).alloc (Nat.le_refl _) _)
  have HZ0 := Lib.hid hz0
  have HB0 := Lib.hid hb0
  have HW0 := Lib.hid hW0
  have LT := fun (ord : List Int) (h : Nat → Int) (v : Nat) (w' : World) (ho : ord.length ≤ 6) (hb : Below w.heap.size w w') (hz : Blaze w' w.heap.size (w.heap.size + 2) (w.heap.size + 1) w.heap.size M pb M ord h) =>
    Lib.hid (light_any w.heap.size (w.heap.size + 2) (w.heap.size + 1) w.heap.size M pb M cA A es ord h v (.slice (some ⟨g, 0, none⟩) M cg) w' hn ho hes hpb (hB.below hb hpb) (hE.below hb) hz)
  have CT := fun (ord : List Int) (h : Nat → Int) (v : Nat) (w' : World) (hv : v < M) (ho : ord.length ≤ 6) (h0 : 0 < ord.length) (hh : HeatIs es ord h) (hb : Below w.heap.size w w') (hz : Blaze w' w.heap.size (w.heap.size + 2) (w.heap.size + 1) w.heap.size M pb M ord h) =>
    Lib.hid (catches_any w.heap.size (w.heap.size + 2) (w.heap.size + 1) w.heap.size M pb M g cg (.slice A es.length cA) d ord h v w' hv hd ho h0 (fun u _ => hh.wrap_ hn u) (hB.below hb hpb) (hC.below hb) hz)
  clear hB hC hE hes hd hz0 hb0 hW0
  go_enter Try.func118, Try.ntmps118
  go_wp2_with fail
  go_step3
  go_wp2_with fail
  rw [← HW0.out]
  refine (LT [] (fun _ => 0) q W0 (by simp) HB0.out HZ0.out).out.mono ?_
  rintro e w1 ⟨rfl, hz1, hb1⟩
  have HI1 : Hid (BurnI M es d (q : Int) [(q : Int)]) := Lib.hid (BurnI.start (by omega))
  have HH1 := Lib.hid ((HeatIs.nil es).push (v := q) (by simp) (fun e he => (HES.out e he).2.1))
  have HZ1 := Lib.hid hz1
  have HB1 := Lib.hid (HB0.out.trans hb1)
  clear hz1 hb1 HZ0 HB0 HW0 hmk q0
  go_wp2
  go_step3
  go_wp2
  go_loopg [6] (M - 1) (fun gk _ wr => ∃ (ord : List Int) (h : Nat → Int), Hid (gk + ord.length = M) ∧ Hid (BurnI M es d (q : Int) ord) ∧ Hid (HeatIs es ord h) ∧ Hid (Blaze wr w.heap.size (w.heap.size + 2) (w.heap.size + 1) w.heap.size M pb M ord h) ∧ Hid (Below w.heap.size w wr))
  case atStart => exact ⟨_, _, Lib.hid (by simp; omega), HI1, HH1, HZ1, HB1⟩
  case round =>
    obtain ⟨ord, h, HG, HI, HH, HZ, HBw⟩ := hrel
    clear HI1 HH1 HZ1 HB1
    have hlM := HI.out.toBurns.len
    have hl0 : 0 < ord.length := List.length_pos_of_mem HI.out.toBurns.first
    have hl6 : ord.length ≤ 6 := by omega
    obtain ⟨gx, rfl⟩ : ∃ gx : Nat, gx = gk := ⟨_, rfl⟩
    obtain ⟨wo, rfl⟩ : ∃ wo : World, wo = wr := ⟨_, rfl⟩
    go_wp2
    go_loopg [6] M (fun gj i wx => ∃ v : Nat, v < M ∧ gj + v = M ∧ i = .int .i64 v ∧ Hid (∀ j, j < v → catchV es d ord j = false) ∧ Hid (Blaze wx w.heap.size (w.heap.size + 2) (w.heap.size + 1) w.heap.size M pb M ord h) ∧ Hid (Below w.heap.size w wx))
    case atStart => exact ⟨0, hM0, by omega, rfl, Lib.hid (fun j hj => absurd hj (by omega)), HZ, HBw⟩
    case round =>
      obtain ⟨v, hv, hgv, rfl, HN, HZ2, HB2⟩ := hrel
      have hv0 : (0 : Int) ≤ (v : Int) := Int.natCast_nonneg _
      have hv1 : (v : Int) < 6 := by omega
      have HCT := CT ord h v wr hv hl6 hl0 HH.out HB2.out HZ2.out
      have hcc := HH.out.catch_ (d := d) v
      rw [hcc] at HCT
      clear hcc
      cases hcv : catchV es d ord v with
      | true =>
        rw [hcv] at HCT
        have HNX := Lib.hid (nextV_some hv hcv HN.out)
        have HNV := Lib.hid (catchV_iff.1 hcv).2
        clear hcv
        go_wp2_with fail
        refine HCT.out.mono ?_
        rintro e w2 ⟨rfl, hb2⟩
        have HZ3 := Lib.hid (HZ2.out.below hb2)
        have HB3 := Lib.hid (HB2.out.trans (hb2.mono HB2.out.size))
        clear hb2
        go_wp2_with fail
        refine (LT ord h v w2 hl6 HB3.out HZ3.out).out.mono ?_
        rintro e w3 ⟨rfl, hz3, hb3⟩
        have HZ4 := Lib.hid hz3
        have HB4 := Lib.hid (HB3.out.trans hb3)
        have HI4 := Lib.hid (HI.out.push HNX.out)
        have HH4 := Lib.hid (HH.out.push HNV.out (fun e he => (HES.out e he).2.1))
        have hlt := HI.out.toBurns.len_lt hv HNV.out
        clear hz3 hb3
        go_wp2
        go_roundg (gx - 1)
        case measure => have := HG.out; omega
        case rel => exact ⟨_, _, Lib.hid (by have := HG.out; simp; omega), HI4, HH4, HZ4, HB4⟩
      | false =>
        rw [hcv] at HCT
        have HN2 : Hid (∀ j, j < v + 1 → catchV es d ord j = false) := Lib.hid (fun j hj => by
          rcases Nat.lt_or_ge j v with g | g
          · exact HN.out j g
          · rw [show j = v by omega]; exact hcv)
        clear hcv
        go_wp2_with fail
        refine HCT.out.mono ?_
        rintro e w2 ⟨rfl, hb2⟩
        have q2 : w2.cell? ⟨pb, 1, none⟩ = some (.slice (some ⟨g, 0, none⟩) M cg) := by
          have := HB.out.below (HB2.out.trans (hb2.mono HB2.out.size)) hpb
          rw [this.cell]; rfl
        have HZ3 := Lib.hid (HZ2.out.below hb2)
        have HB3 := Lib.hid (HB2.out.trans (hb2.mono HB2.out.size))
        clear hb2
        by_cases he : v + 1 = M
        · have t1 : ((v : Int) + 1 == (M : Int)) = true := by rw [beq_iff_eq]; omega
          have HND := Lib.hid (HI.out.done (nextV_none fun j hj => HN2.out j (by omega)))
          clear he
          go_wp2
          try rw [Exit.noGoto_ret]
          go_ret
          have hz := HZ3.out
          have hh := HH.out
          rw [HND.out] at hz hh
          exact ⟨_, _, _, _, h, rfl, hz, hh, HB3.out⟩
        · have t1 : ((v : Int) + 1 == (M : Int)) = false := by rw [beq_eq_false_iff_ne]; omega
          have HV2 := Lib.hid (show v + 1 < M by omega)
          clear he
          go_wp2
          go_roundg (gk - 1)
          case measure => omega
          case rel => exact ⟨v + 1, HV2.out, by omega, by go_num, HN2, HZ3, HB3⟩
end Go.Proofs.Ytdpojcgeblbfeaa

/- The specification's l05Burn. -/
namespace Go.Proofs.Ytdpojcgeblbfeaa
open Go.RowKit

def burntM (M : Nat) (ord : List Int) : List Value := (List.range M).map fun (v : Nat) => Value.bool (inL ord (v : Int))
structure BurnW (w wr : World) (M : Nat) (A : Option Addr) (c : Nat) (es : List (Int × Int)) (v : Value) (ord : List Int) : Prop where
  box : Blk wr w.heap.size 25 #[.int .i64 (M : Int), .slice A es.length c]
  own : wr.ownsRow (w.heap.size + 1) 3 1 v ord.length (intCells ord)
  marks : Blk wr (w.heap.size + 1 + 1) 4 (burntM M ord).toArray
  old : Below w.heap.size w wr
theorem BurnW.next {w wr w2 : World} {M : Nat} {A : Option Addr} {c : Nat} {es : List (Int × Int)} {v : Value} {ord : List Int} (h : BurnW w wr M A c es v ord) (hb : Below wr.heap.size wr w2) : BurnW w w2 M A c es v ord :=
  ⟨h.box.below hb h.box.lt, own_below h.own hb, h.marks.below hb h.marks.lt, h.old.trans (hb.mono h.old.size)⟩
def Above (M : Nat) (es : List (Int × Int)) (d ord : List Int) (z nx : Int) : Prop :=
  (nx = -1 ∧ ∀ j : Nat, j < M → z < (j : Int) → catchV es d ord j = false) ∨ (∃ j0 : Nat, nx = (j0 : Int) ∧ j0 < M ∧ z < (j0 : Int) ∧ catchV es d ord j0 = true ∧ ∀ j : Nat, j < j0 → z < (j : Int) → catchV es d ord j = false)
theorem Above.start (M : Nat) (es : List (Int × Int)) (d ord : List Int) : Above M es d ord ((M : Int) - 1) (-1) := .inl ⟨rfl, fun j hj h => by omega⟩
theorem Above.hit {M : Nat} {es : List (Int × Int)} {d ord : List Int} {v : Nat} (hv : v < M) (hc : catchV es d ord v = true) : Above M es d ord ((v : Int) - 1) (v : Int) :=
  .inr ⟨v, rfl, hv, by omega, hc, fun j hj hz => by omega⟩
theorem Above.end_ {M : Nat} {es : List (Int × Int)} {d ord : List Int} {nx : Int} (h : Above M es d ord (-1) nx) : (nx = -1 ∧ nextV M es d ord = none) ∨ ∃ v : Nat, nx = (v : Int) ∧ nextV M es d ord = some v := by
  rcases h with ⟨h1, h2⟩ | ⟨j0, h1, h2, h3, h4, h5⟩
  · exact .inl ⟨h1, nextV_none fun v hv => h2 v hv (by omega)⟩
  · exact .inr ⟨j0, h1, nextV_some h2 h4 fun j hj => h5 j hj (by omega)⟩
theorem Above.lo {M : Nat} {es : List (Int × Int)} {d ord : List Int} {z nx : Int} (h : Above M es d ord z nx) : -1 ≤ nx ∧ nx < (M : Int) := by
  rcases h with ⟨h1, h2⟩ | ⟨j0, h1, h2, h3, h4, h5⟩ <;> omega

end Go.Proofs.Ytdpojcgeblbfeaa

/- DivisorOk and ScriptOk: both sides answer one plain test of the graph and the list. -/
namespace Go.Proofs.Ytdpojcgeblbfeaa
open Go.RowKit

end Go.Proofs.Ytdpojcgeblbfeaa

/- DivisorOk: both sides. -/
namespace Go.Proofs.Ytdpojcgeblbfeaa
open Go.RowKit

end Go.Proofs.Ytdpojcgeblbfeaa

/- The box of a graph that comes in; what a valid divisor has. -/
namespace Go.Proofs.Ytdpojcgeblbfeaa
open Go.RowKit

structure GB (w wc : World) (N : Int) (A : Option Addr) (c : Nat) (es : List (Int × Int)) : Prop where
  box : Blk wc w.heap.size 25 #[.int .i64 N, .slice A es.length c]
  old : Below w.heap.size w wc
section
variable {w wc wd : World} {N : Int} {A : Option Addr} {c : Nat} {es : List (Int × Int)}
theorem GB.c0 (h : GB w wc N A c es) : wc.cell? ⟨w.heap.size, 0, none⟩ = some (.int .i64 N) := by rw [h.box.cell]; rfl
theorem GB.c1 (h : GB w wc N A c es) : wc.cell? ⟨w.heap.size, 1, none⟩ = some (.slice A es.length c) := by rw [h.box.cell]; rfl
theorem GB.next (h : GB w wc N A c es) (hb : Below wc.heap.size wc wd) : GB w wd N A c es := ⟨h.box.below hb h.box.lt, h.old.trans (hb.mono h.old.size)⟩
theorem GB.lt (h : GB w wc N A c es) : w.heap.size < wc.heap.size := h.box.lt
theorem GB.start (w : World) (N : Int) (A : Option Addr) (c : Nat) (es : List (Int × Int)) : GB w (w.alloc (.cells #[.int .i64 N, .slice A es.length c] 25)) N A c es := ⟨Blk.new w _ _, (Below.refl _ _).alloc (Nat.le_refl _) _⟩
end
end Go.Proofs.Ytdpojcgeblbfeaa

/- The program's boardOf: a board with a copy of the chips. -/
namespace Go.Proofs.Ytdpojcgeblbfeaa
open Go.RowKit

theorem clone_any (D : Option Addr) (cd B : Nat) (d : List Int) (w : World) (h0 : 0 < d.length) (hd : d.length ≤ 1048576) (hS : IntS w B D d) :
    Calls Try.prog 88 #[.slice D d.length cd] w fun e w' => ∃ g cg : Nat, e = .returned (.slice (some ⟨g, 0, none⟩) d.length cg) ∧ w.heap.size ≤ g ∧ Chips w' g d ∧ Below w.heap.size w w' := by
  obtain ⟨b, off, rfl, hb, hc⟩ := hS h0
  refine (Try.slices_Clone_int b off d.length cd d w (Nat.le_refl _) (by omega) (fun j hj => by rw [hc j d[j] (List.getElem?_eq_getElem hj)]; simp [List.getD, List.getElem?_eq_getElem hj])).mono ?_
  rintro e w' ⟨v, rfl, hown, _, hbl⟩
  rw [List.take_length] at hown
  obtain ⟨g, cg, rfl, hg, hch⟩ := Chips.of_own (l := d) hown h0
  exact ⟨g, cg, rfl, hg, hch, hbl⟩

def GivesBoard (w : World) (A : Option Addr) (n c : Nat) (d : List Int) (e : Ending) (w' : World) : Prop :=
  ∃ p g cg : Nat, e = .returned (.pointer (some ⟨p, 0, none⟩)) ∧ Blk w' p 112 #[.slice A n c, .slice (some ⟨g, 0, none⟩) d.length cg] ∧ Chips w' g d ∧ w.heap.size ≤ g ∧ g < p ∧ Below w.heap.size w w'
set_option maxHeartbeats 1000000 in
theorem boardOf_any (N : Int) (A D : Option Addr) (n c cd : Nat) (d : List Int) (w : World) (h0 : 0 < d.length) (hd : d.length ≤ 1048576) (hS : IntS w w.heap.size D d) :
    Calls Try.prog 117 #[.agg #[.int .i64 N, .slice A n c], .slice D d.length cd] w (GivesBoard w A n c d) := by
  have HS := Lib.hid hS
  clear hS
  go_enter Try.func117, Try.ntmps117
  go_wp2_with fail
  obtain ⟨W0, hW0⟩ : ∃ X : World, X = w.alloc (Obj.cells #[.int .i64 N, .slice A n c] 25) := ⟨_, rfl⟩
  rw [← hW0]
  have hb0 : Below w.heap.size w W0 := by rw [hW0]; exact (Below.refl _ _).alloc (Nat.le_refl _) _
  have c1 : W0.cell? ⟨w.heap.size, 1, none⟩ = some (.slice A n c) := by rw [hW0, (Blk.new w _ _).cell]; rfl
  have l0 : w.heap.size < W0.heap.size := by rw [hW0]; simp
  clear hW0
  go_region_held3 (fun w' => w'.cell? ⟨w.heap.size, 1, none⟩ = some (.slice A n c) ∧ Below W0.heap.size W0 w')
    (first
      | exact ⟨c1, (Below.refl _ _).drew⟩
      | exact keepB (by assumption) hb2 l0
      | exact keepB (by assumption) ((Below.refl _ _).alloc (Nat.le_refl _) _) l0)
    ((go_at_call 88; refine (clone_any _ _ _ _ _ h0 hd (HS.out.up_ hb0.drew)).mono ?_; rintro e w2 ⟨g, cg, rfl, hg, hc, hb2⟩))
  have hs2 := hb2.size
  have hg2 : W0.heap.size ≤ g := hg
  have hgl := hc.lt
  have hbz : Below w.heap.size w (w2.alloc (Obj.cells #[.slice A n c, .slice (some ⟨g, 0, none⟩) d.length cg] 112)) := (hb0.drew.trans (hb2.mono hb0.size)).alloc (by have := hb0.size; omega) _
  have HC := Lib.hid (hc.below ((Below.refl _ _).alloc (Nat.le_refl _) (Obj.cells #[.slice A n c, .slice (some ⟨g, 0, none⟩) d.length cg] 112)))
  clear hc hb2
  go_wp2
  go_ret
  exact ⟨w2.heap.size, g, cg, rfl, Blk.new _ _ _, HC.out, by have := hb0.size; omega, hgl, hbz⟩
end Go.Proofs.Ytdpojcgeblbfeaa

/- BurnFrom and IsReduced: both sides, and what they call. -/
namespace Go.Proofs.Ytdpojcgeblbfeaa
open Go.RowKit

end Go.Proofs.Ytdpojcgeblbfeaa

/- Debts beside q: both sides; the vertices that are spared. -/
namespace Go.Proofs.Ytdpojcgeblbfeaa
open Go.RowKit

def debtAt (d : List Int) (q : Int) (v : Nat) : Bool := !decide ((v : Int) = q) && decide (d.getD v 0 < 0)
def debtor (d : List Int) (q : Int) : Int := match (List.range d.length).find? (debtAt d q) with
  | some v => (v : Int)
  | none => -1
def hasDebt (d : List Int) (q : Int) : Bool := (List.range d.length).any (debtAt d q)
theorem debtor_none {d : List Int} {q : Int} (h : ∀ v, v < d.length → debtAt d q v = false) : debtor d q = -1 ∧ hasDebt d q = false := by
  have h1 : (List.range d.length).find? (debtAt d q) = none := by
    rw [List.find?_eq_none]
    intro x hx
    rw [h x (List.mem_range.1 hx)]
    simp
  refine ⟨by rw [debtor, h1], ?_⟩
  rw [hasDebt, List.any_eq_false]
  intro x hx
  rw [h x (List.mem_range.1 hx)]
  simp
theorem debtor_some {d : List Int} {q : Int} {v : Nat} (hv : v < d.length) (hc : debtAt d q v = true) (h : ∀ j, j < v → debtAt d q j = false) : debtor d q = (v : Int) ∧ hasDebt d q = true := by
  have h1 : (List.range d.length).find? (debtAt d q) = some v := by
    rw [List.find?_range_eq_some]
    exact ⟨hc, List.mem_range.2 hv, fun j hj => by rw [h j hj]; rfl⟩
  refine ⟨by rw [debtor, h1], ?_⟩
  rw [hasDebt, List.any_eq_true]
  exact ⟨v, List.mem_range.2 hv, hc⟩
theorem least_or (P : Nat → Bool) : ∀ n, (∀ v, v < n → P v = false) ∨ ∃ v, v < n ∧ P v = true ∧ ∀ j, j < v → P j = false
  | 0 => .inl fun v h => by omega
  | n + 1 => by
    rcases least_or P n with h | ⟨v, h1, h2, h3⟩
    · cases hc : P n with
      | false =>
        refine .inl fun v hv => ?_
        by_cases e : v = n
        · rw [e]; exact hc
        · exact h v (by omega)
      | true => exact .inr ⟨n, by omega, hc, h⟩
    · exact .inr ⟨v, by omega, h2, h3⟩
theorem debtor_cases (d : List Int) (q : Int) : (debtor d q = -1 ∧ hasDebt d q = false ∧ ∀ v, v < d.length → debtAt d q v = false) ∨ ∃ v : Nat, v < d.length ∧ debtor d q = (v : Int) ∧ hasDebt d q = true ∧ debtAt d q v = true ∧ ∀ j, j < v → debtAt d q j = false := by
  rcases least_or (debtAt d q) d.length with h | ⟨v, h1, h2, h3⟩
  · exact .inl ⟨(debtor_none h).1, (debtor_none h).2, h⟩
  · exact .inr ⟨v, h1, (debtor_some h1 h2 h3).1, (debtor_some h1 h2 h3).2, h2, h3⟩
set_option maxHeartbeats 400000 in
theorem isDebtB (z : Int) (w : World) : Calls Try.prog 160 #[.int .i64 z] w fun e w' => e = .returned (.bool (decide (z < 0))) ∧ w = w' := by
  go_enter Try.func160, Try.ntmps160
  go_wp2
  go_ret
  exact ⟨rfl, rfl⟩
set_option maxRecDepth 100000 in
set_option maxHeartbeats 1000000 in
theorem debtorBeside_any (D : Option Addr) (cd B : Nat) (d : List Int) (q : Int) (w : World) (hd : d.length ≤ 1048576) (hS : IntS w B D d) :
    Calls Try.prog 137 #[.slice D d.length cd, .int .i64 q] w fun e w' => e = .returned (.int .i64 (debtor d q)) ∧ w' = w := by
  have HS := Lib.hid hS
  clear hS
  go_enter Try.func137, Try.ntmps137
  go_wp2
  go_loopw [9, 5, 6] (fun i _ _ wr => ∃ k : Nat, k ≤ d.length ∧ i = .int .i64 k ∧ (∀ j, j < k → debtAt d q j = false) ∧ wr = w) (fun i _ _ _ => d.length - (intOf i).toNat)
  case atStart => exact ⟨0, Nat.zero_le _, rfl, fun j hj => absurd hj (by omega), rfl⟩
  case round =>
    obtain ⟨k, hk, rfl, hno, rfl⟩ := hrel
    have HN := Lib.hid hno
    clear hno
    by_cases hlt : k < d.length
    · obtain ⟨b1, o1, x, rfl, hb1, he, hc0⟩ := HS.out.at_ hlt
      have hi0 : (0 : Int) ≤ (k : Int) := Int.natCast_nonneg _
      have hi1 : (k : Int) < (d.length : Int) := by omega
      have hD : debtAt d q k = (!decide ((k : Int) = q) && decide (x < 0)) := by simp [debtAt, List.getD, he]
      have HX := Lib.hid (isDebtB x wr)
      clear he
      by_cases hq : (k : Int) = q
      · have t1 : ((k : Int) != q) = false := by simp [hq]
        have HN2 : Hid (∀ j, j < k + 1 → debtAt d q j = false) := Lib.hid (fun j hj => by
          by_cases e : j = k
          · rw [e, hD]; simp [hq]
          · exact HN.out j (by omega))
        clear hD hq
        go_wp2
        exact ⟨⟨k + 1, by omega, by go_num, HN2.out, by trivial⟩, by simp [intOf]; omega⟩
      · have t1 : ((k : Int) != q) = true := by simp [hq]
        by_cases hx : x < 0
        · have t2 : decide (x < 0) = true := decide_eq_true hx
          have HR := Lib.hid (debtor_some hlt (by rw [hD]; simp [hq, hx]) HN.out).1
          rw [t2] at HX
          clear hD hq hx
          go_wp2_with fail
          refine HX.out.mono ?_
          rintro e w' ⟨rfl, rfl⟩
          go_wp2
          go_ret
          exact ⟨by rw [HR.out]; rfl, rfl⟩
        · have t2 : decide (x < 0) = false := decide_eq_false hx
          have HN2 : Hid (∀ j, j < k + 1 → debtAt d q j = false) := Lib.hid (fun j hj => by
            by_cases e : j = k
            · rw [e, hD]; simp [t2]
            · exact HN.out j (by omega))
          rw [t2] at HX
          clear hD hq hx
          go_wp2_with fail
          refine HX.out.mono ?_
          rintro e w' ⟨rfl, rfl⟩
          go_wp2
          exact ⟨⟨k + 1, by omega, by go_num, HN2.out, by trivial⟩, by simp [intOf]; omega⟩
    · have HR := Lib.hid (debtor_none (fun v hv => HN.out v (by omega))).1
      go_wp2
      go_ret
      exact ⟨by rw [HR.out]; rfl, rfl⟩
theorem sparedL_snoc (M : Nat) (ord : List Int) : sparedL (M + 1) ord = sparedL M ord ++ if inL ord (M : Int) = true then [] else [(M : Int)] := by
  unfold sparedL
  rw [List.range_succ, List.filter_append, List.map_append]
  congr 1
  cases h : inL ord (M : Int) <;> simp [h]
theorem sparedL_len (M : Nat) (ord : List Int) : (sparedL M ord).length ≤ M := by
  unfold sparedL
  rw [List.length_map]
  have := List.length_filter_le (fun (v : Nat) => !inL ord (v : Int)) (List.range M)
  simpa using this
theorem sparedL_mem {M : Nat} {ord : List Int} {x : Int} : x ∈ sparedL M ord ↔ 0 ≤ x ∧ x < (M : Int) ∧ ¬ x ∈ ord := by
  unfold sparedL
  simp only [List.mem_map, List.mem_filter, List.mem_range, inL, Bool.not_eq_true', decide_eq_false_iff_not]
  constructor
  · rintro ⟨v, ⟨h1, h2⟩, rfl⟩
    exact ⟨by omega, by omega, h2⟩
  · rintro ⟨h1, h2, h3⟩
    exact ⟨x.toNat, ⟨by omega, by rw [show ((x.toNat : Nat) : Int) = x by omega]; exact h3⟩, by omega⟩
theorem sparedL_nodup (M : Nat) (ord : List Int) : (sparedL M ord).Nodup := by
  unfold sparedL
  rw [List.nodup_iff_pairwise_ne, List.pairwise_map]
  exact List.Pairwise.imp (fun {a b} h => by omega) (List.nodup_iff_pairwise_ne.1 (List.nodup_range.sublist (List.filter_sublist)))
set_option maxRecDepth 100000 in
set_option maxHeartbeats 2000000 in
theorem spared_any (B base pf gh ch pb M : Nat) (ord : List Int) (h : Nat → Int) (w : World) (hM : M ≤ 6) (ho : ord.length ≤ 6) (h0 : 0 < ord.length) (hZ : Blaze w B base pf gh ch pb M ord h) :
    Calls Try.prog 119 #[.pointer (some ⟨pf, 0, none⟩)] w (GivesInts w (sparedL M ord)) := by
  obtain ⟨i0, hi, hz0, hz1, hz2⟩ := info_parts intInfo
  obtain ⟨O, co, hbx, _⟩ := hZ.box
  have q2 : w.cell? ⟨pf, 2, none⟩ = some (.slice (some ⟨gh, 0, none⟩) M ch) := by rw [hbx.cell]; rfl
  have HB := fun (v : Int) (w' : World) (hb : Below w.heap.size w w') => Lib.hid (burns_any B base pf gh ch pb M ord h v w' ho h0 (hZ.below hb))
  clear hZ hbx
  go_enter Try.func119, Try.ntmps119
  go_wp2
  go_loopw [3, 4, 10] (fun s _ i wr => ∃ (k : Nat) (A3 : Option Addr) (c3 : Nat), k ≤ M ∧ i = .int .i64 k ∧ s = .slice A3 (sparedL k ord).length c3 ∧ wr.ownsRow w.heap.size 3 1 (.slice A3 (sparedL k ord).length c3) (sparedL k ord).length (intCells (sparedL k ord)) ∧ Below w.heap.size w wr) (fun _ _ i _ => M - (intOf i).toNat)
  case atStart => exact ⟨0, none, 0, Nat.zero_le _, rfl, rfl, ⟨rfl, .inl ⟨rfl, rfl⟩⟩, Below.refl _ _⟩
  case round =>
    obtain ⟨k, A3, c3, hk, rfl, rfl, hown, hb⟩ := hrel
    have HO := Lib.hid hown
    have HBW := Lib.hid hb
    have hsl := sparedL_len k ord
    have hws := hb.size
    clear hown hb q2
    obtain ⟨sk, hsk⟩ : ∃ x, x = sparedL k ord := ⟨_, rfl⟩
    rw [← hsk] at HO hsl ⊢
    have HQ := Lib.hid hsk
    clear hsk
    by_cases hlt : k < M
    · have hi0 : (0 : Int) ≤ (k : Int) := Int.natCast_nonneg _
      have hi1 : (k : Int) < (M : Int) := by omega
      have HX := HB (k : Int) wr HBW.out
      cases hc : inL ord (k : Int) with
      | true =>
        rw [hc] at HX
        have HN := Lib.hid (show sparedL (k + 1) ord = sk by rw [sparedL_snoc, if_pos hc, HQ.out]; simp)
        clear hc
        go_wp2_with fail
        refine HX.out.mono ?_
        rintro e w' ⟨rfl, rfl⟩
        go_wp2
        exact ⟨⟨k + 1, A3, c3, by omega, by go_num, by rw [HN.out], by rw [HN.out]; exact HO.out, HBW.out⟩, by simp [intOf]; omega⟩
      | false =>
        rw [hc] at HX
        have HN := Lib.hid (show sparedL (k + 1) ord = sk ++ [(k : Int)] by rw [sparedL_snoc, if_neg (by rw [hc]; decide), HQ.out])
        have OW := Lib.hid (own_below HO.out ((Below.refl _ _).alloc (Nat.le_refl _) (.cells #[.int .i64 (k : Int)] 3)))
        clear hc
        go_wp2_with (first
          | (go_at_call 170; refine HX.out.mono ?_; rintro e w' ⟨rfl, rfl⟩)
          | (at_builtin; refine wpList_append_own _ rfl _ _ 28 rfl w.heap.size 3 i0 (.int .i64 0) 1 8 Try.underlying28 hi hz0 hz1 hz2 rfl (by decide) _ _ _ rfl OW.out ⟨_, 0, none⟩ 1 1 [.int .i64 (k : Int)] rfl rfl ?k1 ?k2 ?k3 ?k4 ?k5 ?_))
        case k1 => exact one_cell _ _ (by simp) _ _
        case k2 => simp [Value.oneCell']
        case k3 => unfold maxLen; omega
        case k4 => omega
        case k5 => simp; omega
        intro v' w3 hown' hgrow _
        have hown2 : w3.ownsRow w.heap.size 3 1 v' (sk.length + 1) (intCells (sk ++ [(k : Int)])) := by rw [← cells_snoc]; exact hown'
        obtain ⟨A8, c8, hv8, hlen⟩ := own_slice hown2
        rw [hlen] at hown2
        have hol3 : Below w.heap.size w w3 := (HBW.out.alloc (by omega) (.cells #[.int .i64 (k : Int)] 3)).grown hgrow (by simp; omega) (fun q hq => (OW.out.lt q hq).1)
        subst hv8
        rw [← HN.out] at hown2
        have HO4 := Lib.hid hown2
        have HL4 := Lib.hid (congrArg List.length HN.out)
        have HB4 := Lib.hid hol3
        clear hown' hown2 hgrow hol3 hlen
        go_wp2
        exact ⟨⟨k + 1, A8, c8, by omega, by go_num, by rw [HL4.out], HO4.out, HB4.out⟩, by simp [intOf]; omega⟩
    · have HN := Lib.hid (show sk = sparedL M ord by rw [HQ.out, show k = M by omega])
      go_wp2
      go_ret
      exact ⟨A3, c3, by rw [HN.out]; rfl, by rw [← HN.out]; exact OwnI.of_own HO.out, HBW.out⟩
end Go.Proofs.Ytdpojcgeblbfeaa
