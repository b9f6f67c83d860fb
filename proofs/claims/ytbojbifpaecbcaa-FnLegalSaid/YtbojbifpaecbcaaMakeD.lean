/- What the specification makes of a code: a divisor, a script, a configuration: whatever the bytes are. -/
import Derived.Test.YtbojbifpaecbcaaMake
import Derived.Test.YtbojbifpaecbcaaBurnS
namespace Go.Proofs.Ytbojbifpaecbcaa
open Go.RowKit

set_option maxRecDepth 100000 in
set_option maxHeartbeats 1000000 in
theorem l01Pick_any (w : World) (gc g : Nat) (A0 : Option Addr) (c0 : Nat) (xs l : List Int) (lo hi : Int) (hx : xs.length ≤ 1048576) (hl0 : 0 < l.length) (hl1 : l.length ≤ 256) (hb : ∀ x ∈ l, lo ≤ x ∧ x ≤ hi) (hne : g ≠ gc) (hC : Cur w gc A0 xs.length c0) (hS : CodeS w gc A0 xs) (hB : Blk w g 3 (intCells l).toArray) :
    Calls Try.prog 102 #[.pointer (some ⟨gc, 0, none⟩), .slice (some ⟨g, 0, none⟩) l.length l.length] w fun e w' => ∃ x, e = .returned (.int .i64 x) ∧ lo ≤ x ∧ x ≤ hi ∧ Cur w' gc A0 xs.length c0 ∧ Below gc w w' ∧ ∀ k, k ≠ gc → w'.heap[k]? = w.heap[k]? := by
  have HD := Lib.hid (l01Below_any (l.length : Int) (by omega) (by omega) w gc A0 c0 xs hx hC hS)
  have HB := Lib.hid hB
  have HL := Lib.hid hb
  clear hC hS hB hb
  go_enter Try.func102, Try.ntmps102
  go_wp2_with fail
  refine HD.out.mono ?_
  rintro e w1 ⟨x, rfl, hx0, hx1, hC, hbl, hf⟩
  obtain ⟨k, rfl⟩ : ∃ k : Nat, x = (k : Int) := ⟨x.toNat, by omega⟩
  have hk : k < l.length := by omega
  have HB1 := Lib.hid (show Blk w1 g 3 (intCells l).toArray from (hf g hne).trans HB.out)
  have hcell : w1.cell? ⟨g, k, none⟩ = some (.int .i64 l[k]) := by rw [HB1.out.cell]; simp [intCells, hk]
  have hin := HL.out l[k] (List.getElem_mem hk)
  obtain ⟨y, hy⟩ : ∃ y, y = l[k] := ⟨_, rfl⟩
  rw [← hy] at hcell hin
  have HC := Lib.hid hC
  have HF := Lib.hid hf
  clear hy hC hf HL HB HB1 HD
  have hk2 : (k : Int) < (l.length : Int) := by omega
  go_wp2
  go_ret
  exact ⟨y, rfl, hin.1, hin.2, HC.out, hbl, HF.out⟩

/-- what a drawing of a list holds: the cursor, the graph's box, the list; L: below it nothing changes -/
structure MkW (w wr : World) (gc X B L : Nat) (A : Option Addr) (n c : Nat) (N : Int) (V s : Value) (l : List Int) : Prop where
  cur : Cur wr gc A n c
  old : Below L w wr
  box : Blk wr X 25 #[.int .i64 N, V]
  own : wr.ownsRow B 3 1 s l.length (intCells l)
  kep : ∀ k, k ≠ gc → k < w.heap.size → wr.heap[k]? = w.heap[k]?
section
variable {w wr w2 : World} {gc X B L n c : Nat} {A : Option Addr} {N : Int} {V s : Value} {l : List Int}
theorem MkW.next (h : MkW w wr gc X B L A n c N V s l) (hw : w.heap.size ≤ B) (hB : B ≤ wr.heap.size) (hL : L ≤ B) (hb : Below wr.heap.size wr w2) : MkW w w2 gc X B L A n c N V s l :=
  ⟨h.cur.below hb, h.old.trans (hb.mono (by omega)), h.box.below hb h.box.lt, own_below h.own hb, fun k h1 h2 => (hb.block k (by omega)).trans (h.kep k h1 h2)⟩
theorem MkW.drawn (h : MkW w wr gc X B L A n c N V s l) (hL : L ≤ gc) (hX : X ≠ gc) (hg : gc < B) (hc : Cur w2 gc A n c) (hb : Below gc wr w2) (hf : ∀ k, k ≠ gc → w2.heap[k]? = wr.heap[k]?) : MkW w w2 gc X B L A n c N V s l :=
  ⟨hc, h.old.trans (hb.mono hL), (hf _ hX).trans h.box, own_keep2 h.own (fun g h1 _ => hf g (by omega)), fun k h1 h2 => (hf k h1).trans (h.kep k h1 h2)⟩
theorem MkW.push {v' : Value} {l' : List Int} {row : Option Nat} (h : MkW w wr gc X B L A n c N V s l) (hw : w.heap.size ≤ B) (hB : B ≤ wr.heap.size) (hL : L ≤ B) (hX : X < B) (hg : gc < B) (hlt : ∀ q, row = some q → B ≤ q) (hgr : wr.grownBy w2 row) (ho : w2.ownsRow B 3 1 v' l'.length (intCells l')) : MkW w w2 gc X B L A n c N V v' l' :=
  ⟨h.cur.keep (hgr.block gc h.cur.lt (fun e => by have := hlt gc e.symm; omega)), h.old.grown hgr (by omega) (fun q hq => by have := hlt q hq; omega), h.box.grown hgr (fun e => by have := hlt X e; omega), ho, fun k h1 h2 => (hgr.block k (by omega) (fun e => by have := hlt k e.symm; omega)).trans (h.kep k h1 h2)⟩
end
/-- a list of numbers between lo and hi, one for each vertex -/
def DrawnL (w : World) (gc L M : Nat) (lo hi : Int) (e : Ending) (w' : World) : Prop :=
  ∃ (A1 : Option Addr) (c1 : Nat) (d : List Int), e = .returned (.slice A1 d.length c1) ∧ Hid (d.length = M) ∧ (∀ x ∈ d, lo ≤ x ∧ x ≤ hi) ∧ OwnI w' w.heap.size A1 d ∧ Below L w w' ∧ ∀ k, k ≠ gc → k < w.heap.size → w'.heap[k]? = w.heap[k]?
theorem bound_snoc {l : List Int} {lo hi x : Int} (h : ∀ y ∈ l, lo ≤ y ∧ y ≤ hi) (h0 : lo ≤ x) (h1 : x ≤ hi) : ∀ y ∈ l ++ [x], lo ≤ y ∧ y ≤ hi := fun y hy => by
  rw [List.mem_append, List.mem_singleton] at hy
  rcases hy with hy | rfl
  · exact h y hy
  · exact ⟨h0, h1⟩

set_option maxRecDepth 100000 in
set_option maxHeartbeats 2000000 in
theorem l04Draw_any (w : World) (gc M : Nat) (V : Value) (hV : ∃ a b c, V = .slice a b c) (A0 : Option Addr) (c0 : Nat) (xs : List Int) (hM : M ≤ 6) (hx : xs.length ≤ 1048576) (hC : Cur w gc A0 xs.length c0) (hS : CodeS w gc A0 xs) :
    Calls Try.prog 67 #[.pointer (some ⟨gc, 0, none⟩), .agg #[.int .i64 (M : Int), V]] w (DrawnL w gc gc M (-2) 6) := by
  obtain ⟨va, vb, vc, rfl⟩ := hV
  obtain ⟨i0, hi, hz0, hz1, hz2⟩ := info_parts intInfo
  have hgc := hC.lt
  have HS := Lib.hid hS
  have LB := fun (w' : World) (hd : Cur w' gc A0 xs.length c0) (ho : Below gc w w') => Lib.hid (l01Below_any 7 (by omega) (by omega) w' gc A0 c0 xs hx hd (hS.keep ho))
  have PK := fun (w' : World) (g : Nat) (l : List Int) (h1 : l.length = 7) (h2 : ∀ x ∈ l, -2 ≤ x ∧ x ≤ 6) (h3 : g ≠ gc) (hd : Cur w' gc A0 xs.length c0) (ho : Below gc w w') (hb : Blk w' g 3 (intCells l).toArray) => Lib.hid (l01Pick_any w' gc g A0 c0 xs l (-2) 6 hx (by omega) (by omega) h2 h3 hd (hS.keep ho) hb)
  have hb0 : Below w.heap.size w (w.alloc (Obj.cells #[.int .i64 (M : Int), .slice va vb vc] 25)) := (Below.refl _ _).alloc (Nat.le_refl _) _
  obtain ⟨W0, hW0⟩ : ∃ X : World, X = (w.alloc (Obj.cells #[.int .i64 (M : Int), .slice va vb vc] 25)).alloc (Obj.cells #[] 3) := ⟨_, rfl⟩
  have HM0 := Lib.hid (show MkW w W0 gc w.heap.size (w.heap.size + 1) gc A0 xs.length c0 (M : Int) (.slice va vb vc) (.slice (some ⟨w.heap.size + 1, 0, none⟩) 0 0) [] from by
    have hb1 : Below w.heap.size w W0 := by rw [hW0]; exact hb0.alloc (by simp) _
    refine ⟨hC.below hb1, hb1.mono (Nat.le_of_lt hgc), by rw [hW0]; exact (Blk.new w _ _).alloc _, ⟨rfl, .inr ⟨w.heap.size + 1, 0, #[], rfl, Nat.le_refl _, ?_, Nat.le_refl _, Nat.zero_le _, rfl, rfl⟩⟩, fun k h1 h2 => ?_⟩
    · rw [hW0]
      have := heap_alloc_new (w.alloc (Obj.cells #[.int .i64 (M : Int), .slice va vb vc] 25)) (Obj.cells #[] 3)
      rwa [World.size_alloc] at this
    · rw [hW0]
      exact (Below.heap_alloc _ _ k (by simp; omega)).trans (Below.heap_alloc _ _ k h2))
  have HW0 := Lib.hid hW0
  have HLM := Lib.hid hM
  clear hC hS hb0 hW0
  go_enter Try.func67, Try.ntmps67
  go_wp2
  go_loopw [5, 6] (fun s i wr => ∃ (k : Nat) (l : List Int), i = .int .i64 k ∧ k ≤ M ∧ l.length = k ∧ (∀ x ∈ l, -2 ≤ x ∧ x ≤ 6) ∧ MkW w wr gc w.heap.size (w.heap.size + 1) gc A0 xs.length c0 (M : Int) (.slice va vb vc) s l) (fun _ i _ => M - (intOf i).toNat)
  case atStart =>
    rw [← HW0.out]
    exact ⟨0, [], rfl, Nat.zero_le _, rfl, (fun x hx => by cases hx), HM0.out⟩
  case round =>
    clear HM0 HW0
    obtain ⟨k, l, rfl, hk, hlk, hbd, hm⟩ := hrel
    have HM := Lib.hid hm
    have HBD := Lib.hid hbd
    have HLK := Lib.hid hlk
    obtain ⟨x0, x1, x2, x3, x4⟩ := box_facts hm.box
    have hsz : w.heap.size + 1 ≤ wr.heap.size := x4
    clear hm hbd hlk
    by_cases hlt : k < M
    · have hk0 : (0 : Int) ≤ (k : Int) := Int.natCast_nonneg _
      have hk1 : (k : Int) < (M : Int) := by omega
      have HB := LB wr HM.out.cur HM.out.old
      go_wp2_with fail
      refine HB.out.mono ?_
      rintro e w2 ⟨y, rfl, hy0, hy1, hC2, hb2, hf2⟩
      have HM2 := Lib.hid (HM.out.drawn (Nat.le_refl _) (by omega) (by omega) hC2 hb2 hf2)
      have hs2 : w.heap.size + 1 ≤ w2.heap.size := HM2.out.box.lt
      clear hC2 hb2 hf2 HB HM x0 x1 x2 x3 x4
      obtain ⟨W3, hW3⟩ : ∃ X : World, X = w2.alloc (Obj.cells #[.int .i64 0, .int .i64 1, .int .i64 2, .int .i64 (-1), .int .i64 3, .int .i64 (-2), .int .i64 y] 3) := ⟨_, rfl⟩
      have HM3 := Lib.hid (show MkW w W3 gc w.heap.size (w.heap.size + 1) gc A0 xs.length c0 (M : Int) (.slice va vb vc) u5 l from HM2.out.next (by omega) hs2 (by omega) (by rw [hW3]; exact (Below.refl _ _).alloc (Nat.le_refl _) _))
      have HP := PK W3 w2.heap.size [0, 1, 2, -1, 3, -2, y] rfl (by intro x hx; simp at hx; omega) (by omega) HM3.out.cur HM3.out.old (by rw [hW3]; exact Blk.new w2 _ _)
      have HW3 := Lib.hid hW3
      clear hW3 HM2
      go_wp2_with fail
      rw [← HW3.out]
      refine HP.out.mono ?_
      rintro e w4 ⟨x, rfl, hx0, hx1, hC4, hb4, hf4⟩
      have HM4 := Lib.hid (HM3.out.drawn (Nat.le_refl _) (by omega) (by omega) hC4 hb4 hf4)
      have hs4 : w.heap.size + 1 ≤ w4.heap.size := HM4.out.box.lt
      clear hC4 hb4 hf4 HP HM3 HW3
      have HM5 := Lib.hid (HM4.out.next (by omega) hs4 (by omega) ((Below.refl _ _).alloc (Nat.le_refl _) (.cells #[.int .i64 x] 3)))
      have hll : l.length ≤ 6 := by have := HLK.out; have := HLM.out; omega
      go_wp2_with (at_builtin; refine wpList_append_own _ rfl _ _ 29 rfl (w.heap.size + 1) 3 i0 (.int .i64 0) 1 8 Try.underlying29 hi hz0 hz1 hz2 rfl (by decide) _ _ _ rfl HM5.out.own ⟨_, 0, none⟩ 1 1 [.int .i64 x] rfl rfl ?c1 ?c2 ?c3 ?c4 ?c5 ?_)
      case c1 => exact one_cellI _ _ (by simp) _ _
      case c2 => simp [Value.oneCell']
      case c3 => unfold maxLen; omega
      case c4 => omega
      case c5 => simp; omega
      intro v' w6 hown' hgrow _
      have hown2 : w6.ownsRow (w.heap.size + 1) 3 1 v' (l ++ [x]).length (intCells (l ++ [x])) := by rw [← cells_snoc, List.length_append]; exact hown'
      have HM6 := Lib.hid (HM5.out.push (by omega) (by simp; omega) (by omega) (by omega) (by omega) (fun q hq => (HM5.out.own.lt q hq).1) hgrow hown2)
      clear hown' hown2 hgrow
      obtain ⟨y0, y1, y2, y3, y4⟩ := box_facts HM6.out.box
      go_wp2
      exact ⟨⟨k + 1, l ++ [x], by go_num, by omega, by have := HLK.out; simp; omega, bound_snoc HBD.out hx0 hx1, HM6.out⟩, by simp [intOf]; omega⟩
    · have hkM : k = M := by omega
      have hno : ¬ ((k : Int) < (M : Int)) := by omega
      obtain ⟨Ar, cr, hv, -⟩ := own_slice HM.out.own
      subst hv
      have HO := Lib.hid (OwnI.of_own HM.out.own)
      go_wp2
      go_ret
      exact ⟨Ar, cr, l, rfl, Lib.hid (by have := HLK.out; omega), HBD.out, HO.out.mono (by omega), HM.out.old, HM.out.kep⟩
theorem keepK {W0 w' w'' : World} {B K X : Nat} {a b : Value} (h : w'.cell? ⟨X, 0, none⟩ = some a ∧ w'.cell? ⟨X, 1, none⟩ = some b ∧ Below B W0 w') (hb : Below K w' w'') (hX : X < K) (hB : B ≤ K) :
    w''.cell? ⟨X, 0, none⟩ = some a ∧ w''.cell? ⟨X, 1, none⟩ = some b ∧ Below B W0 w'' := ⟨(hb.cell (p := ⟨X, 0, none⟩) hX).trans h.1, (hb.cell (p := ⟨X, 1, none⟩) hX).trans h.2.1, h.2.2.trans (hb.mono hB)⟩
/-- a list of numbers between lo and hi, one for each vertex, new memory -/
def MadeL (w : World) (M : Nat) (lo hi : Int) (e : Ending) (w' : World) : Prop :=
  ∃ (A1 : Option Addr) (c1 : Nat) (d : List Int), e = .returned (.slice A1 d.length c1) ∧ Hid (d.length = M) ∧ (∀ x ∈ d, lo ≤ x ∧ x ≤ hi) ∧ OwnI w' w.heap.size A1 d ∧ Below w.heap.size w w'
set_option maxRecDepth 100000 in
set_option maxHeartbeats 2000000 in
theorem makeDivisor_any (w : World) (m M : Nat) (hm : m ≤ 1000) (va : Option Addr) (vb vc : Nat) (A0 : Option Addr) (c0 : Nat) (xs : List Int) (hM : M ≤ 6) (hx : xs.length ≤ 1048576) (hS : CodeS w w.heap.size A0 xs) :
    Calls Try.prog 22 #[.slice A0 xs.length c0, .int .i64 m, .agg #[.int .i64 (M : Int), .slice va vb vc]] w (MadeL w M (-2) 6) := by
  have hb0 : Below w.heap.size w (w.alloc (Obj.cells #[.int .i64 (M : Int), .slice va vb vc] 25)) := (Below.refl _ _).alloc (Nat.le_refl _) _
  have HB := Lib.hid (Blk.new w 25 #[.int .i64 (M : Int), .slice va vb vc])
  have HS := Lib.hid hS
  have HB0 := Lib.hid hb0
  have HLM := Lib.hid hM
  clear hS hb0 hM
  go_enter Try.func22, Try.ntmps22
  go_wp2_with fail
  obtain ⟨W0, hW0⟩ : ∃ X : World, X = w.alloc (Obj.cells #[.int .i64 (M : Int), .slice va vb vc] 25) := ⟨_, rfl⟩
  rw [← hW0] at HB HB0
  rw [← hW0]
  clear hW0
  obtain ⟨x0, x1, x2, x3, x4⟩ := box_facts HB.out
  have NW := fun (W : World) (hb : Below W0.heap.size W0 W) => Lib.hid (l21New_any m hm W A0 c0 xs hx ((HS.out.keep (HB0.out.trans (hb.mono HB0.out.size))).up (Nat.le_trans HB0.out.size hb.size)))
  have DW := fun (W : World) (gc : Nat) (hg : W0.heap.size ≤ gc) (hC : Cur W gc A0 xs.length c0) (hb : Below W0.heap.size W0 W) => Lib.hid (l04Draw_any W gc M (.slice va vb vc) ⟨_, _, _, rfl⟩ A0 c0 xs HLM.out hx hC ((HS.out.keep (HB0.out.trans (hb.mono HB0.out.size))).up (Nat.le_trans HB0.out.size hg)))
  go_region_held3 (fun w' => w'.cell? ⟨w.heap.size, 0, none⟩ = some (.int .i64 (M : Int)) ∧ w'.cell? ⟨w.heap.size, 1, none⟩ = some (.slice va vb vc) ∧ Below W0.heap.size W0 w')
    (first
      | exact ⟨x0, x1, (Below.refl _ _).drew⟩
      | exact keepK (by assumption) hb1 x4 (Nat.le_refl _)
      | exact keepK (by assumption) hb2 (Nat.lt_of_lt_of_le x4 hN) hN)
    (first
      | (go_at_call 68; refine (NW _ (Below.refl _ _).drew).out.mono ?_; rintro e w1 ⟨gc, rfl, hN, hC, hb1⟩)
      | (go_at_call 67; refine (DW w1 gc hN hC ((Below.refl _ _).drew.trans hb1)).out.mono ?_; rintro e w2 ⟨A1, c1, d, rfl, hdl, hbd, ho, hb2, hkp⟩))
  have hN2 : W0.heap.size ≤ gc := hN
  have hBF := (HB0.out.trans (((Below.refl _ _).drew.trans hb1).mono HB0.out.size)).trans (hb2.mono (Nat.le_trans HB0.out.size hN2))
  have hs1 := hb1.size
  have HO := Lib.hid (ho.mono (base' := w.heap.size) (Nat.le_trans HB0.out.size hs1))
  have HBD := Lib.hid hbd
  clear hbd ho hb2 hkp
  go_wp2
  go_ret
  exact ⟨A1, c1, d, rfl, hdl, HBD.out, HO.out, hBF⟩
end Go.Proofs.Ytbojbifpaecbcaa
