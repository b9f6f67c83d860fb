/- The specification's l02Draw: what it draws is a valid graph of its own. -/
import Derived.Test.YtbojbifpaecbcaaDrawM
import Derived.Test.YtbojbifpaecbcaaCurN
import Derived.Test.YtbojbifpaecbcaaBF
namespace Go.Proofs.Ytbojbifpaecbcaa
open Go.RowKit

theorem own_keep2 {w w' : World} {base n size : Nat} {t : TypeId} {v : Value} {xs : List Value} (h : w.ownsRow base t size v n xs) (hk : ∀ g, base ≤ g → g < w.heap.size → w'.heap[g]? = w.heap[g]?) : w'.ownsRow base t size v n xs := by
  refine ⟨h.1, ?_⟩
  rcases h.2 with g | ⟨g, cap, cur, hv, hb, hh, rest⟩
  · exact .inl g
  · refine .inr ⟨g, cap, cur, hv, hb, ?_, rest⟩
    rw [hk g hb (Array.getElem?_eq_some_iff.1 hh).1]
    exact hh
theorem Cur.below {w w' : World} {g n c : Nat} {A : Option Addr} (h : Cur w g A n c) (hb : Below w.heap.size w w') : Cur w' g A n c := by
  obtain ⟨i, x, h1, h2, h3, h4⟩ := h
  exact ⟨i, x, h1, h2, h3, h4.below hb h4.lt⟩
theorem Cur.keep {w w' : World} {g n c : Nat} {A : Option Addr} (h : Cur w g A n c) (hb : w'.heap[g]? = w.heap[g]?) : Cur w' g A n c := by
  obtain ⟨i, x, h1, h2, h3, h4⟩ := h
  exact ⟨i, x, h1, h2, h3, hb.trans h4⟩
theorem Cur.lt {w : World} {g n c : Nat} {A : Option Addr} (h : Cur w g A n c) : g < w.heap.size := by
  obtain ⟨i, x, h1, h2, h3, h4⟩ := h
  exact h4.lt
theorem OwnE.keep2 {w w' : World} {base : Nat} {A : Option Addr} {es : List (Int × Int)} (h : OwnE w base A es) (hs : w.heap.size ≤ w'.heap.size) (hk : ∀ g, base ≤ g → g < w.heap.size → w'.heap[g]? = w.heap[g]?) : OwnE w' base A es := fun hn => by
  obtain ⟨g, off, rfl, h1, hg, hc⟩ := h hn
  have hbl := hk g h1 hg
  refine ⟨g, off, rfl, h1, Nat.lt_of_lt_of_le hg hs, fun i z hz => ?_⟩
  rw [World.cell?_of_block (a := ⟨g, off + i * 2, none⟩) hbl, World.cell?_of_block (a := ⟨g, off + i * 2 + 1, none⟩) hbl, World.frozen?_of_block (a := ⟨g, off + i * 2, none⟩) hbl, World.frozen?_of_block (a := ⟨g, off + i * 2 + 1, none⟩) hbl]
  exact hc i z hz
/-- what the drawing holds: the cursor, the box of the result -/
structure DrW (w wr : World) (gc : Nat) (A : Option Addr) (n c : Nat) : Prop where
  cur : Cur wr gc A n c
  old : Below gc w wr
  res : Blk wr w.heap.size 25 #[.int .i64 0, .slice none 0 0]
  kep : ∀ k, k ≠ gc → k < w.heap.size → wr.heap[k]? = w.heap[k]?
theorem DrW.next {w wr w2 : World} {gc n c : Nat} {A : Option Addr} (h : DrW w wr gc A n c) (hb : Below wr.heap.size wr w2) : DrW w w2 gc A n c :=
  ⟨h.cur.below hb, h.old.trans (hb.mono (Nat.le_of_lt h.cur.lt)), h.res.below hb h.res.lt, fun k h1 h2 => (hb.block k (Nat.lt_of_lt_of_le h2 h.old.size)).trans (h.kep k h1 h2)⟩
theorem DrW.drawn {w wr w2 : World} {gc n c : Nat} {A : Option Addr} (h : DrW w wr gc A n c) (hgc : gc < w.heap.size) (hc : Cur w2 gc A n c) (hb : Below gc wr w2) (hf : ∀ k, k ≠ gc → w2.heap[k]? = wr.heap[k]?) : DrW w w2 gc A n c :=
  ⟨hc, h.old.trans hb, (hf _ (by omega)).trans h.res, fun k h1 h2 => (hf k h1).trans (h.kep k h1 h2)⟩
theorem DrW.store {w wr : World} {gc n c X o : Nat} {A : Option Addr} (h : DrW w wr gc A n c) (hX : w.heap.size < X) (hgc : gc < w.heap.size) (u : Value) : DrW w (wr.setCell ⟨X, o, none⟩ u) gc A n c :=
  ⟨h.cur.keep (Below.heap_setCell _ _ _ _ (by show gc ≠ X; omega)), h.old.setCell (p := ⟨X, o, none⟩) (by simp only; omega) _, h.res.far (p := ⟨X, o, none⟩) (by simp only; omega) _, fun k h1 h2 => (Below.heap_setCell _ _ _ _ (by show k ≠ X; omega)).trans (h.kep k h1 h2)⟩
theorem keepAl {gc : Nat} {w W : World} {p r : Addr} {a b : Value} {o : Obj} (h : W.cell? p = some a ∧ W.cell? r = some b ∧ Below gc w W) (hg : gc ≤ w.heap.size) : (W.alloc o).cell? p = some a ∧ (W.alloc o).cell? r = some b ∧ Below gc w (W.alloc o) := by
  obtain ⟨h1, h2, h3⟩ := h
  have hb : Below W.heap.size W (W.alloc o) := (Below.refl _ _).alloc (Nat.le_refl _) _
  exact ⟨(hb.cell (World.block_lt_of_cell? W p h1)).trans h1, (hb.cell (World.block_lt_of_cell? W r h2)).trans h2, h3.trans (hb.mono (Nat.le_trans hg h3.size))⟩
theorem keepSt {gc X : Nat} {w W : World} {p r : Addr} {a b u v : Value} (h : W.cell? p = some a ∧ W.cell? r = some b ∧ Below gc w W) (hp : p.block ≠ X ∧ r.block ≠ X) (hX : gc ≤ X) :
    ((W.setCell ⟨X, 0, none⟩ u).setCell ⟨X, 1, none⟩ v).cell? p = some a ∧ ((W.setCell ⟨X, 0, none⟩ u).setCell ⟨X, 1, none⟩ v).cell? r = some b ∧ Below gc w ((W.setCell ⟨X, 0, none⟩ u).setCell ⟨X, 1, none⟩ v) := by
  obtain ⟨h1, h2, h3⟩ := h
  have hbl : ∀ k, k ≠ X → ((W.setCell ⟨X, 0, none⟩ u).setCell ⟨X, 1, none⟩ v).heap[k]? = W.heap[k]? := fun k hk => (Below.heap_setCell _ _ _ _ (by simpa using hk)).trans (Below.heap_setCell _ _ _ _ (by simpa using hk))
  exact ⟨(World.cell?_of_block (hbl _ hp.1)).trans h1, (World.cell?_of_block (hbl _ hp.2)).trans h2, (h3.setCell (p := ⟨X, 0, none⟩) hX u).setCell (p := ⟨X, 1, none⟩) hX v⟩
theorem bxA {w6 w7 w8 : World} {gc : Nat} {cs : Array Value} {t : TypeId} (hf : ∀ k, k ≠ gc → w7.heap[k]? = ((w6.alloc (.cells cs t)).drew).heap[k]?) (hne : w6.heap.size ≠ gc) (hb : Below w7.heap.size w7 w8) : Blk w8 w6.heap.size t cs := by
  have h1 : Blk w7 w6.heap.size t cs := (hf _ hne).trans (Blk.new w6 t cs)
  exact h1.below hb h1.lt
theorem bxB {w7 w8 : World} {cs : Array Value} {t : TypeId} (hb : Below (w7.alloc (.cells cs t)).heap.size (w7.alloc (.cells cs t)) w8) : Blk w8 w7.heap.size t cs :=
  (Blk.new w7 t cs).below hb (by simp)
/-- a vertex other than a, as it is drawn -/
theorem draw_other {N : Nat} (h2 : 2 ≤ N) (h5 : N ≤ 5) {a y : Int} (ha0 : 0 ≤ a) (ha1 : a < (N : Int)) (hy0 : 0 ≤ y) (hy1 : y ≤ (N : Int) - 2) : 0 ≤ (a + 1 + y).tmod (N : Int) ∧ (a + 1 + y).tmod (N : Int) < (N : Int) ∧ (a + 1 + y).tmod (N : Int) ≠ a := by
  rw [Int.tmod_eq_emod_of_nonneg (by omega)]
  have h : N = 2 ∨ N = 3 ∨ N = 4 ∨ N = 5 := by omega
  rcases h with rfl | rfl | rfl | rfl <;> omega
theorem draw_add {N : Nat} {es : List (Int × Int)} (h2 : 2 ≤ N) (h5 : N ≤ 5) {a y : Int} (ha0 : 0 ≤ a) (ha1 : a < (N : Int)) (hy0 : 0 ≤ y) (hy1 : y ≤ (N : Int) - 2) (hl : es.length ≤ 8) (hg : graphB (N : Int) es = true) : addK (N : Int) es a ((a + 1 + y).tmod (N : Int)) = true := by
  obtain ⟨h3, h4, h6⟩ := draw_other h2 h5 ha0 ha1 hy0 hy1
  have h7 : ¬ a = (a + 1 + y).tmod (N : Int) := fun e => h6 e.symm
  simp [addK, hg, vB_t (N := (N : Int)) ⟨ha0, ha1⟩, vB_t (N := (N : Int)) ⟨h3, h4⟩, h7]
  omega
/-- what the last loop holds behind an edge that was added: the graph's box X, the new graph's box P -/
structure DrZ (w wz : World) (gc : Nat) (A : Option Addr) (n c X P B : Nat) (NI : Int) (V : Value) (A8 : Option Addr) (c8 : Nat) (L : List (Int × Int)) : Prop where
  dr : DrW w wz gc A n c
  hx : Blk wz X 25 #[.int .i64 NI, V]
  bx : Blk wz P 25 #[.int .i64 NI, .slice A8 L.length c8]
  ow : OwnE wz B A8 L
  lt : X < B
theorem DrZ.box {w w8 : World} {gc n c X P B : Nat} {A A8 : Option Addr} {NI : Int} {V u v : Value} {c8 : Nat} {L : List (Int × Int)} (hd : DrW w w8 gc A n c) (hx : Blk w8 X 25 #[.int .i64 NI, V]) (hb : Blk w8 P 25 #[u, v]) (ho : OwnE w8 B A8 L)
    (hgc : gc < w.heap.size) (h1 : w.heap.size < P) (h2 : X < P) (h3 : P < B) : DrZ w ((w8.setCell ⟨P, 0, none⟩ (.int .i64 NI)).setCell ⟨P, 1, none⟩ (.slice A8 L.length c8)) gc A n c X P B NI V A8 c8 L :=
  ⟨(hd.store h1 hgc _).store h1 hgc _, (hx.far (p := ⟨P, 0, none⟩) (by simp only; omega) _).far (p := ⟨P, 1, none⟩) (by simp only; omega) _, (hb.set_ 0 _).set_ 1 _, ownE_far ho h3 _ _, by omega⟩
theorem DrZ.new {w w8 : World} {gc n c X B : Nat} {A A8 : Option Addr} {NI : Int} {V : Value} {c8 : Nat} {L : List (Int × Int)} (hd : DrW w w8 gc A n c) (hx : Blk w8 X 25 #[.int .i64 NI, V]) (ho : OwnE w8 B A8 L) (h2 : X < B) :
    DrZ w (w8.alloc (.cells #[.int .i64 NI, .slice A8 L.length c8] 25)) gc A n c X w8.heap.size B NI V A8 c8 L :=
  ⟨hd.next ((Below.refl _ _).alloc (Nat.le_refl _) _), hx.alloc _, Blk.new w8 _ _, ho.below ((Below.refl _ _).alloc (Nat.le_refl _) _), h2⟩
/-- a valid graph of the call's own -/
def GivesGraph (w : World) (gc : Nat) (A0 : Option Addr) (n0 c0 : Nat) (e : Ending) (w' : World) : Prop :=
  ∃ (M : Nat) (A : Option Addr) (c : Nat) (es : List (Int × Int)), e = .returned (.agg #[.int .i64 (M : Int), .slice A es.length c]) ∧ 2 ≤ M ∧ M ≤ 5 ∧ es.length ≤ 8 ∧ graphB (M : Int) es = true ∧ OwnE w' (w.heap.size + 1) A es ∧ Cur w' gc A0 n0 c0 ∧ Below gc w w' ∧ ∀ k, k ≠ gc → k < w.heap.size → w'.heap[k]? = w.heap[k]?

set_option maxRecDepth 100000 in
set_option maxHeartbeats 8000000 in
theorem l02Draw_any (w : World) (gc : Nat) (A0 : Option Addr) (c0 : Nat) (xs : List Int) (hx : xs.length ≤ 1048576) (hC : Cur w gc A0 xs.length c0) (hS : CodeS w gc A0 xs) :
    Calls Try.prog 94 #[.pointer (some ⟨gc, 0, none⟩), .int .i64 5] w (GivesGraph w gc A0 xs.length c0) := by
  obtain ⟨i0, hI, hzz0, hzz1, hzz2⟩ := info_parts edgeInfo
  have hgc := hC.lt
  have HS := Lib.hid hS
  have LB := fun (m : Int) (h0 : 1 ≤ m) (h1 : m ≤ 256) (w' : World) (hd : Cur w' gc A0 xs.length c0) (ho : Below gc w w') => Lib.hid (l01Below_any m h0 h1 w' gc A0 c0 xs hx hd (hS.keep ho))
  obtain ⟨W0, hW0⟩ : ∃ X : World, X = (w.alloc (Obj.cells #[.int .i64 0, .slice none 0 0] 25)).alloc (Obj.cells #[.int .i64 1, .slice none 0 0] 25) := ⟨_, rfl⟩
  have hd0 : DrW w W0 gc A0 xs.length c0 := by
    have hb0 : Below w.heap.size w W0 := by rw [hW0]; exact ((Below.refl _ _).alloc (Nat.le_refl _) _).alloc (by simp) _
    exact ⟨hC.below hb0, hb0.mono (Nat.le_of_lt hgc), by rw [hW0]; exact (Blk.new w _ _).alloc _, fun k _ hk => hb0.block k hk⟩
  have hg0 : Blk W0 (w.heap.size + 1) 25 #[.int .i64 1, .slice none 0 0] := by
    have h := Blk.new (w.alloc (Obj.cells #[.int .i64 0, .slice none 0 0] 25)) 25 #[.int .i64 1, .slice none 0 0]
    rw [World.size_alloc, ← hW0] at h
    exact h
  have HD0 := Lib.hid hd0
  have HG0 := Lib.hid hg0
  have HW0 := Lib.hid hW0
  have HB0 := LB 4 (by omega) (by omega) W0 hd0.cur hd0.old
  clear hS hC hW0 hd0 hg0
  go_enter Try.func94, Try.ntmps94
  go_wp2_with fail
  rw [← HW0.out]
  refine HB0.out.mono ?_
  rintro e w1 ⟨x, rfl, hx0, hx1, hC1, hb1, hf1⟩
  obtain ⟨N, hN⟩ : ∃ N : Nat, (N : Int) = 2 + x := ⟨(2 + x).toNat, by omega⟩
  have HD1 := Lib.hid (HD0.out.drawn hgc hC1 hb1 hf1)
  have HG1 := Lib.hid (show Blk w1 (w.heap.size + 1) 25 #[.int .i64 1, .slice none 0 0] from (hf1 _ (by omega)).trans HG0.out)
  have hN2 : 2 ≤ N := by omega
  have hN5 : N ≤ 5 := by omega
  clear hC1 hb1 hf1 HB0 HD0 HG0 HW0
  go_wp2
  rw [← hN]
  clear hN hx0 hx1
  go_loopw [7, 8] (fun v _ wr => ∃ (k : Nat) (l : List (Int × Int)) (V : Value), v = .int .i64 k ∧ k ≤ N ∧ l.length + 1 = k ∧ TreeL l ∧ DrW w wr gc A0 xs.length c0 ∧ Blk wr (w.heap.size + 1) 25 #[.int .i64 k, V] ∧ wr.ownsRow (w.heap.size + 2) 36 2 V l.length (flat l)) (fun v _ _ => N - (intOf v).toNat)
  case atStart => exact ⟨1, [], _, rfl, by omega, rfl, TreeL.nil, HD1.out, HG1.out, ⟨rfl, .inl ⟨rfl, rfl⟩⟩⟩
  case round =>
    clear HD1 HG1
    obtain ⟨k, l, V, rfl, hk, hlk, htr, hdr, hgb, hown⟩ := hrel
    have HT := Lib.hid htr
    have HD := Lib.hid hdr
    have HG := Lib.hid hgb
    have HO := Lib.hid hown
    have hgl := hgb.lt
    have hf0 := hgb.frozen 0
    obtain ⟨x0, x1, x2, x3, x4⟩ := box_facts hgb
    clear htr hdr hgb hown
    by_cases hlt : k < N
    · have hk0 : (0 : Int) ≤ (k : Int) := Int.natCast_nonneg _
      have hk1 : (k : Int) < (N : Int) := by omega
      have hN6 : (N : Int) ≤ 5 := by omega
      have hlen : (k : Int) = (l.length : Int) + 1 := by omega
      have HLK := Lib.hid hlen
      have HLL := Lib.hid hlk
      have HD2 := Lib.hid (HD.out.store (X := w.heap.size + 1) (o := 0) (by omega) hgc (.int .i64 ((k : Int) + 1)))
      have HG2 := Lib.hid (HG.out.set_ 0 (.int .i64 ((k : Int) + 1)))
      have HO2 := Lib.hid (own_set (X := w.heap.size + 1) (o := 0) (u := .int .i64 ((k : Int) + 1)) HO.out (by omega))
      have HB := LB (k : Int) (by omega) (by omega) _ HD2.out.cur HD2.out.old
      have hkk : k ≤ 4 := by omega
      have hll : l.length ≤ 4 := by omega
      clear hlen hlk
      go_wp2_with fail
      refine HB.out.mono ?_
      rintro e w2 ⟨x, rfl, hx0, hx1, hC2, hb2, hf2⟩
      have HD3 := Lib.hid (HD2.out.drawn hgc hC2 hb2 hf2)
      have hg3 : Blk w2 (w.heap.size + 1) 25 #[.int .i64 ((k : Int) + 1), V] := (hf2 _ (by omega)).trans HG2.out
      have HO3 := Lib.hid (own_keep2 HO2.out (fun g hg _ => hf2 g (by omega)))
      obtain ⟨s0, s1, s2, s3, s4⟩ := box_facts hg3
      have HG3 := Lib.hid hg3
      clear hC2 hb2 hf2 hg3 HB HD2 HG2 HO2 x0 x1 x2 x3 x4 hf0
      have OW := Lib.hid ((HO3.out.alloc (.cells #[.int .i64 x, .int .i64 (k : Int)] 36)).alloc (.cells #[.int .i64 x, .int .i64 (k : Int)] 36))
      go_wp2_with (at_builtin; refine wpList_append_own _ rfl _ _ 23 rfl (w.heap.size + 2) 36 i0 (.agg #[.int .i64 0, .int .i64 0]) 2 16 Try.underlying23 hI hzz0 hzz1 hzz2 rfl (by decide) _ _ _ rfl OW.out ⟨_, 0, none⟩ 1 1 [.int .i64 x, .int .i64 (k : Int)] rfl rfl ?p1 ?p2 ?p3 ?p4 ?p5 ?_)
      case p1 => exact two_cells _ _ (by simp) _ _ _
      case p2 =>
        intro u hu
        simp only [List.mem_cons, List.not_mem_nil, or_false] at hu
        rcases hu with rfl | rfl <;> rfl
      case p3 => unfold maxLen; omega
      case p4 => omega
      case p5 => simp; omega
      intro v' w3 hown' hgrow _
      have HQ : Hid (w3.ownsRow (w.heap.size + 2) 36 2 v' (l ++ [(x, (k : Int))]).length (flat (l ++ [(x, (k : Int))]))) := Lib.hid (by
        rw [flat_app]
        have h3 := hown'
        simpa [flat] using h3)
      have hlt' := (OW.out).lt
      have hbg : Below w2.heap.size w2 ((w2.alloc (.cells #[.int .i64 x, .int .i64 (k : Int)] 36)).alloc (.cells #[.int .i64 x, .int .i64 (k : Int)] 36)) := ((Below.refl _ _).alloc (Nat.le_refl _) _).alloc (by simp) _
      have hd4 : DrW w w3 gc A0 xs.length c0 := by
        have h1 := HD3.out.next hbg
        have hsz := hgrow.size
        have hcl := h1.cur.lt
        have hrl := h1.res.lt
        refine ⟨h1.cur.keep (hgrow.block gc hcl (fun h => by have := (hlt' _ h.symm).1; omega)), h1.old.grown hgrow (by omega) (fun q hq => by have := (hlt' q hq).1; omega), ?_, ?_⟩
        · exact (hgrow.block _ hrl (fun h => by have := (hlt' _ h.symm).1; omega)).trans h1.res
        · exact fun k hk1 hk2 => (hgrow.block k (Nat.lt_of_lt_of_le hk2 h1.old.size) (fun h => by have := (hlt' _ h.symm).1; omega)).trans (h1.kep k hk1 hk2)
      have hg4 : Blk w3 (w.heap.size + 1) 25 #[.int .i64 ((k : Int) + 1), V] := Blk.grown (HG3.out.below hbg HG3.out.lt) hgrow (fun h => by have := (hlt' _ h).1; omega)
      obtain ⟨A9, c9, hv9, -, -⟩ := ownE_of HQ.out
      obtain ⟨n9, hn9⟩ : ∃ n9, n9 = (l ++ [(x, (k : Int))]).length := ⟨_, rfl⟩
      rw [← hn9] at hv9
      subst hv9
      have HT4 := Lib.hid (show TreeL (l ++ [(x, (k : Int))]) from by
        have h := HT.out.push hx0 (by have := HLK.out; omega)
        rwa [← HLK.out] at h)
      have HD4 := Lib.hid (hd4.store (X := w.heap.size + 1) (o := 1) (by omega) hgc (.slice A9 n9 c9))
      have HG4 := Lib.hid (hg4.set_ 1 (.slice A9 n9 c9))
      have HO4 := Lib.hid (own_set (X := w.heap.size + 1) (o := 1) (u := .slice A9 n9 c9) HQ.out (by omega))
      obtain ⟨z0, z1, z2, z3, z4⟩ := box_facts hg4
      clear hown' hgrow hlt' hbg hd4 hg4 hn9
      go_wp2
      exact ⟨⟨k + 1, l ++ [(x, (k : Int))], .slice A9 n9 c9, by go_num, by omega, by have := HLL.out; simp; omega, HT4.out, HD4.out, HG4.out, HO4.out⟩, by simp [intOf]; omega⟩
    · have hkN : k = N := by omega
      have hnl : ¬ ((k : Int) < (N : Int)) := by omega
      obtain ⟨Ag, cg, hV, hOE, -⟩ := ownE_of HO.out
      have hgN : Blk wr (w.heap.size + 1) 25 #[.int .i64 (N : Int), .slice Ag l.length cg] := by rw [← hkN, ← hV]; exact HG.out
      obtain ⟨w3, rfl⟩ : ∃ x : World, x = wr := ⟨_, rfl⟩
      have HGN := Lib.hid hgN
      have HOE := Lib.hid hOE
      have hlN : (l.length : Int) + 1 = (N : Int) := by omega
      have HLN := Lib.hid hlN
      have hl4 : l.length ≤ 4 := by omega
      have hs3 : w.heap.size + 2 ≤ w3.heap.size := by omega
      have MU := fun (a b : Nat) (w' : World) (ha : a < b) (hb : b < N) (hbl : Below w3.heap.size w3 w') => Lib.hid (show Calls Try.prog 117 #[.agg #[.int .i64 (N : Int), .slice Ag l.length cg], .int .i64 (a : Int), .int .i64 (b : Int)] w' (fun e w'' => e = .returned (.int .i64 (if ((a : Int), (b : Int)) ∈ l then 1 else 0)) ∧ Below w'.heap.size w' w'') from by
        have h := specMultU (N : Int) Ag cg l (a : Int) (b : Int) w' (by omega) (((hOE.below hbl).edges))
        rw [multB_yes (vB_t (by omega)) (vB_t (by omega)) (by omega), Int.min_eq_left (by omega), Int.max_eq_right (by omega), nodup_count HT.out.nodup] at h
        refine h.mono ?_
        rintro e w'' ⟨rfl, hb2⟩
        refine ⟨?_, hb2⟩
        split <;> rfl)
      clear hOE hgN hV hkN hlk hlN HO HG x0 x1 x2 x3 x4 hf0 hk
      go_wp2
      obtain ⟨W3, hW3⟩ : ∃ X : World, X = w3.alloc (Obj.cells #[.int .i64 (N : Int), .slice none 0 0] 25) := ⟨_, rfl⟩
      have hb3 : Below w3.heap.size w3 W3 := by rw [hW3]; exact (Below.refl _ _).alloc (Nat.le_refl _) _
      have hh3 : Blk W3 w3.heap.size 25 #[.int .i64 (N : Int), .slice none 0 0] := by rw [hW3]; exact Blk.new w3 _ _
      have HW3 := Lib.hid hW3
      have HB3 := Lib.hid hb3
      have HH3 := Lib.hid hh3
      clear hW3 hb3 hh3
      go_loopw [10, 11, 12] (fun a _ _ wr => ∃ (k : Nat) (hs : List (Int × Int)) (V : Value), a = .int .i64 k ∧ k ≤ N ∧ Upto l hs (k : Int) ((k : Int) + 1) ∧ Blk wr w3.heap.size 25 #[.int .i64 (N : Int), V] ∧ wr.ownsRow (w3.heap.size + 1) 36 2 V hs.length (flat hs) ∧ Below w3.heap.size w3 wr) (fun a _ _ _ => N - (intOf a).toNat)
      case atStart =>
        rw [← HW3.out]
        exact ⟨0, [], _, rfl, Nat.zero_le _, Upto.start HT.out, HH3.out, ⟨rfl, .inl ⟨rfl, rfl⟩⟩, HB3.out⟩
      case round =>
        clear HW3 HB3 HH3
        obtain ⟨k2, hs, V2, rfl, hk2, hup, hhb, hown, hbw⟩ := hrel
        have HU := Lib.hid hup
        have HH := Lib.hid hhb
        have HO := Lib.hid hown
        have HB := Lib.hid hbw
        clear hup hhb hown hbw
        by_cases hlt2 : k2 < N
        · have hk0 : (0 : Int) ≤ (k2 : Int) := Int.natCast_nonneg _
          have hk1 : (k2 : Int) < (N : Int) := by omega
          have hN6 : (N : Int) ≤ 5 := by omega
          obtain ⟨wo, rfl⟩ : ∃ wo : World, wo = wr := ⟨_, rfl⟩
          go_wp2
          go_loopw [11, 12] (fun b _ wr => ∃ (j : Nat) (hs : List (Int × Int)) (V : Value), b = .int .i64 j ∧ k2 < j ∧ j ≤ N ∧ Upto l hs (k2 : Int) (j : Int) ∧ Blk wr w3.heap.size 25 #[.int .i64 (N : Int), V] ∧ wr.ownsRow (w3.heap.size + 1) 36 2 V hs.length (flat hs) ∧ Below w3.heap.size w3 wr) (fun b _ _ => N - (intOf b).toNat)
          case atStart => exact ⟨k2 + 1, hs, V2, by go_num, by omega, by omega, by have := HU.out; rwa [show ((k2 + 1 : Nat) : Int) = (k2 : Int) + 1 by omega], HH.out, HO.out, HB.out⟩
          case round =>
            clear HU HH HO HB
            obtain ⟨j, hs, V, rfl, hkj, hj, hup, hhb, hown, hbw⟩ := hrel
            have HU := Lib.hid hup
            have HH := Lib.hid hhb
            have HO := Lib.hid hown
            have HB := Lib.hid hbw
            have hg3 := HGN.out.below hbw HGN.out.lt
            obtain ⟨x0, x1, x2, x3, x4⟩ := box_facts hg3
            clear hup hhb hown hg3
            by_cases hlt3 : j < N
            · have hj0 : (0 : Int) ≤ (j : Int) := Int.natCast_nonneg _
              have hj1 : (j : Int) < (N : Int) := by omega
              have HM := MU k2 j wr hkj hlt3 hbw
              obtain ⟨wp, rfl⟩ : ∃ wp : World, wp = wr := ⟨_, rfl⟩
              clear hbw
              go_wp2_with fail
              refine HM.out.mono ?_
              rintro e w4 ⟨rfl, hb4⟩
              obtain ⟨z0, hz0⟩ : ∃ z0 : Int, z0 = if ((k2 : Int), (j : Int)) ∈ l then 1 else 0 := ⟨_, rfl⟩
              rw [← hz0]
              have HZ := Lib.hid (show (z0 = 1 ∧ ((k2 : Int), (j : Int)) ∈ l ∧ Upto l hs (k2 : Int) (j : Int)) ∨ (z0 = 0 ∧ Upto l hs (k2 : Int) ((j : Int) + 1)) from by
                by_cases hm : ((k2 : Int), (j : Int)) ∈ l
                · exact .inl ⟨by rw [hz0, if_pos hm], hm, HU.out⟩
                · exact .inr ⟨by rw [hz0, if_neg hm], HU.out.skip hm⟩)
              have HH4 := Lib.hid (HH.out.below hb4 HH.out.lt)
              have HO4 := Lib.hid (own_keep2 HO.out (fun g _ hg => hb4.block g hg))
              have HB4 := Lib.hid (HB.out.trans (hb4.mono HB.out.size))
              clear hb4 hz0 HM x0 x1 x2 x3 x4 HU HH HO HB
              go_wp2
              go_loopw [12] (fun c wr => ∃ (z : Int) (hs : List (Int × Int)) (V : Value), c = .int .i64 z ∧ ((z = 1 ∧ ((k2 : Int), (j : Int)) ∈ l ∧ Upto l hs (k2 : Int) (j : Int)) ∨ (z = 0 ∧ Upto l hs (k2 : Int) ((j : Int) + 1))) ∧ Blk wr w3.heap.size 25 #[.int .i64 (N : Int), V] ∧ wr.ownsRow (w3.heap.size + 1) 36 2 V hs.length (flat hs) ∧ Below w3.heap.size w3 wr) (fun c _ => (intOf c).toNat)
              case atStart => exact ⟨z0, hs, V, rfl, HZ.out, HH4.out, HO4.out, HB4.out⟩
              case round =>
                clear HZ HH4 HO4 HB4
                obtain ⟨z, hs, V, rfl, hzz, hhb, hown, hbw⟩ := hrel
                have HH := Lib.hid hhb
                have HO := Lib.hid hown
                have HB := Lib.hid hbw
                have hsz := hbw.size
                obtain ⟨x0, x1, x2, x3, x4⟩ := box_facts hhb
                clear hhb hown hbw
                rcases hzz with ⟨rfl, hm, hup⟩ | ⟨rfl, hup⟩
                · have HU := Lib.hid (hup.take hm)
                  have hhl := hup.len
                  have OW := Lib.hid (own_keep2 (w' := wr.alloc (.cells #[.int .i64 (k2 : Int), .int .i64 (j : Int)] 36)) HO.out (fun g _ hg => Below.heap_alloc _ _ g hg))
                  clear hm hup
                  go_wp2_with (at_builtin; refine wpList_append_own _ rfl _ _ 23 rfl (w3.heap.size + 1) 36 i0 (.agg #[.int .i64 0, .int .i64 0]) 2 16 Try.underlying23 hI hzz0 hzz1 hzz2 rfl (by decide) _ _ _ rfl OW.out ⟨_, 0, none⟩ 1 1 [.int .i64 (k2 : Int), .int .i64 (j : Int)] rfl rfl ?p1 ?p2 ?p3 ?p4 ?p5 ?_)
                  case p1 => exact two_cells _ _ (by simp) _ _ _
                  case p2 =>
                    intro u hu
                    simp only [List.mem_cons, List.not_mem_nil, or_false] at hu
                    rcases hu with rfl | rfl <;> rfl
                  case p3 => unfold maxLen; omega
                  case p4 => omega
                  case p5 => simp; omega
                  intro v' w5 hown' hgrow _
                  have HQ : Hid (w5.ownsRow (w3.heap.size + 1) 36 2 v' (hs ++ [((k2 : Int), (j : Int))]).length (flat (hs ++ [((k2 : Int), (j : Int))]))) := Lib.hid (by
                    rw [flat_app]
                    have h3 := hown'
                    simpa [flat] using h3)
                  have hlt' := (OW.out).lt
                  have hh5 : Blk w5 w3.heap.size 25 #[.int .i64 (N : Int), V] := Blk.grown (HH.out.alloc (.cells #[.int .i64 (k2 : Int), .int .i64 (j : Int)] 36)) hgrow (fun h => by have := (hlt' _ h).1; omega)
                  have hb5 : Below w3.heap.size w3 w5 := (HB.out.alloc hsz (.cells #[.int .i64 (k2 : Int), .int .i64 (j : Int)] 36)).grown hgrow (by simp; omega) (fun q hq => by have := (hlt' q hq).1; omega)
                  obtain ⟨A9, c9, hv9, -, -⟩ := ownE_of HQ.out
                  obtain ⟨n9, hn9⟩ : ∃ n9, n9 = (hs ++ [((k2 : Int), (j : Int))]).length := ⟨_, rfl⟩
                  rw [← hn9] at hv9
                  subst hv9
                  have HH6 := Lib.hid (hh5.set_ 1 (.slice A9 n9 c9))
                  have HO6 := Lib.hid (own_set (X := w3.heap.size) (o := 1) (u := .slice A9 n9 c9) HQ.out (by omega))
                  have HB6 := Lib.hid (Below.setCell (B := w3.heap.size) hb5 (p := ⟨w3.heap.size, 1, none⟩) (Nat.le_refl _) (.slice A9 n9 c9))
                  obtain ⟨s0, s1, s2, s3, s4⟩ := box_facts hh5
                  clear hown' hgrow hlt' hh5 hb5 hn9 x0 x1 x2 x3 x4
                  go_wp2
                  exact ⟨⟨0, _, .slice A9 n9 c9, rfl, .inr ⟨rfl, HU.out⟩, HH6.out, HO6.out, HB6.out⟩, by simp [intOf]⟩
                · have HU := Lib.hid hup
                  clear hup
                  go_wp2
                  exact ⟨⟨j + 1, hs, V, by go_num, by omega, by omega, by have := HU.out; rwa [show ((j + 1 : Nat) : Int) = (j : Int) + 1 by omega], HH.out, HO.out, HB.out⟩, by simp [intOf]; omega⟩
            · have hjN : j = N := by omega
              have HU2 := Lib.hid (show Upto l hs ((k2 : Int) + 1) ((k2 : Int) + 2) from by
                have h := HU.out
                rw [hjN] at h
                exact h.row HT.out HLN.out)
              clear hjN
              go_wp2
              exact ⟨⟨k2 + 1, hs, V, by go_num, by omega, by have := HU2.out; rwa [show ((k2 + 1 : Nat) : Int) = (k2 : Int) + 1 by omega, show (k2 : Int) + 1 + 1 = (k2 : Int) + 2 by omega], HH.out, HO.out, HB.out⟩, by simp [intOf]; omega⟩
        · have hkN : k2 = N := by omega
          have HGB := Lib.hid (show graphB (N : Int) hs = true from by
            have h := HU.out
            rw [hkN] at h
            exact h.done HT.out HLN.out (by omega) (by omega))
          have hhl := HU.out.len
          obtain ⟨Ah, ch, hVh, hOEh, -⟩ := ownE_of HO.out
          subst hVh
          have HOE5 := Lib.hid hOEh
          have HD5 := Lib.hid (HD.out.next HB.out)
          clear hkN hOEh HO HU HB
          go_wp2_with fail
          refine (LB 5 (by omega) (by omega) wr HD5.out.cur HD5.out.old).out.mono ?_
          rintro e w5 ⟨x, rfl, hx0, hx1, hC5, hb5, hf5⟩
          obtain ⟨j0, rfl⟩ : ∃ j : Nat, x = (j : Int) := ⟨x.toNat, by omega⟩
          have HD6 := Lib.hid (HD5.out.drawn hgc hC5 hb5 hf5)
          have HH6 := Lib.hid (show Blk w5 w3.heap.size 25 #[.int .i64 (N : Int), .slice Ah hs.length ch] from (hf5 _ (by omega)).trans HH.out)
          have HE6 := Lib.hid (HOE5.out.keep2 hb5.size (fun g hg _ => hf5 g (by omega)))
          clear hC5 hb5 hf5 HD5 HOE5 HH MU
          go_wp2
          have hgb3 : gc < w3.heap.size + 1 := by omega
          go_loopw [13, 14, 15, 16] (fun k _ _ _ wr => ∃ (j : Nat) (es : List (Int × Int)) (A : Option Addr) (c : Nat), k = .int .i64 j ∧ es.length + j ≤ 8 ∧ graphB (N : Int) es = true ∧ DrW w wr gc A0 xs.length c0 ∧ Blk wr w3.heap.size 25 #[.int .i64 (N : Int), .slice A es.length c] ∧ OwnE wr (w3.heap.size + 1) A es) (fun k _ _ _ _ => (intOf k).toNat)
          case atStart => exact ⟨j0, hs, Ah, ch, rfl, by omega, HGB.out, HD6.out, HH6.out, HE6.out⟩
          case round =>
            clear HD6 HH6 HE6 HGB
            obtain ⟨j, es, A, c, rfl, hej, hgb, hdr, hhb, hoe⟩ := hrel
            have HGB := Lib.hid hgb
            have HD := Lib.hid hdr
            have HH := Lib.hid hhb
            have HE := Lib.hid hoe
            obtain ⟨x0, x1, x2, x3, x4⟩ := box_facts hhb
            clear hgb hdr hhb hoe
            by_cases hj : 0 < j
            · obtain ⟨i, rfl⟩ : ∃ i, j = i + 1 := ⟨j - 1, by omega⟩
              have hj1 : (0 : Int) < ((i + 1 : Nat) : Int) := by omega
              have hN6 : (N : Int) ≤ 5 := by omega
              have hN3 : (2 : Int) ≤ (N : Int) := by omega
              have HB := LB (N : Int) (by omega) (by omega) wr HD.out.cur HD.out.old
              clear x0 x1 x2 x3 x4
              go_wp2_with fail
              refine HB.out.mono ?_
              rintro e w6 ⟨a, rfl, ha0, ha1, hC6, hb6, hf6⟩
              have HD6 := Lib.hid (HD.out.drawn hgc hC6 hb6 hf6)
              have hh6 : Blk w6 w3.heap.size 25 #[.int .i64 (N : Int), .slice A es.length c] := (hf6 _ (by omega)).trans HH.out
              have HE6 := Lib.hid (HE.out.keep2 hb6.size (fun g hg _ => hf6 g (by omega)))
              obtain ⟨x0, x1, x2, x3, x4⟩ := box_facts hh6
              have HH6 := Lib.hid hh6
              clear hC6 hb6 hf6 hh6 HD HH HE HB
              -- the two calls of the region
              have KD := Lib.hid (fun (W : World) (hW : Below w6.heap.size w6 W) => (⟨HD6.out.next hW, HH6.out.below hW HH6.out.lt, HE6.out.below hW⟩ : DrW w W gc A0 xs.length c0 ∧ Blk W w3.heap.size 25 #[.int .i64 (N : Int), .slice A es.length c] ∧ OwnE W (w3.heap.size + 1) A es))
              have C1 := fun (W : World) (hW : Below w6.heap.size w6 W) => Lib.hid (show Calls Try.prog 76 #[.pointer (some ⟨gc, 0, none⟩), .int .i64 ((N : Int) - 1)] W (fun e w' => ∃ y : Int, e = .returned (.int .i64 y) ∧ 0 ≤ y ∧ y ≤ (N : Int) - 2 ∧ DrW w w' gc A0 xs.length c0 ∧ Blk w' w3.heap.size 25 #[.int .i64 (N : Int), .slice A es.length c] ∧ OwnE w' (w3.heap.size + 1) A es ∧ Below gc w6 w' ∧ (∀ k, k ≠ gc → w'.heap[k]? = W.heap[k]?) ∧ W.heap.size ≤ w'.heap.size ∧ w6.heap.size ≤ w'.heap.size) from by
                obtain ⟨d1, d2, d3⟩ := KD.out W hW
                refine (LB ((N : Int) - 1) (by omega) (by omega) W d1.cur d1.old).out.mono ?_
                rintro e w' ⟨y, rfl, hy0, hy1, hC, hb, hf⟩
                exact ⟨y, rfl, hy0, by omega, d1.drawn hgc hC hb hf, (hf _ (by omega)).trans d2, d3.keep2 hb.size (fun g hg _ => hf g (by omega)), (hW.mono (Nat.le_of_lt HD6.out.cur.lt)).trans hb, hf, hb.size, Nat.le_trans hW.size hb.size⟩)
              have C2 := fun (W7 W : World) (y : Int) (hy0 : 0 ≤ y) (hy1 : y ≤ (N : Int) - 2) (d1 : DrW w W7 gc A0 xs.length c0) (d2 : Blk W7 w3.heap.size 25 #[.int .i64 (N : Int), .slice A es.length c]) (d3 : OwnE W7 (w3.heap.size + 1) A es) (d4 : Below gc w6 W7) (hW : Below W7.heap.size W7 W) => Lib.hid (show Calls Try.prog 37 #[.agg #[.int .i64 (N : Int), .slice A es.length c], .int .i64 a, .int .i64 ((a + 1 + y).tmod (N : Int))] W (fun e w' => ∃ (A8 : Option Addr) (c8 : Nat) (L : List (Int × Int)), e = .returned (.tuple #[.agg #[.int .i64 (N : Int), .slice A8 L.length c8], .bool true]) ∧ graphB (N : Int) L = true ∧ Hid (L.length = es.length + 1) ∧ OwnE w' W.heap.size A8 L ∧ DrW w w' gc A0 xs.length c0 ∧ Blk w' w3.heap.size 25 #[.int .i64 (N : Int), .slice A es.length c] ∧ Below gc w6 w' ∧ Below W.heap.size W w') from by
                have k1 := d1.next hW
                have k2 := d2.below hW d2.lt
                have k3 := d3.below hW
                have hk := draw_add (es := es) hN2 hN5 ha0 (by omega) hy0 hy1 (by omega) HGB.out
                refine (specAdd (N : Int) A c es a ((a + 1 + y).tmod (N : Int)) W (by omega) k3.edges).mono ?_
                rintro e w' ⟨A8, c8, rfl, ho, _, hb⟩
                have hn := add_yes hk
                rw [hk, hn.1]
                rw [hn.2] at ho ⊢
                exact ⟨A8, c8, _, rfl, add_valid hk, Lib.hid (insE_len _ _), ho, k1.next hb, k2.below hb k2.lt, (d4.trans (hW.mono (Nat.le_of_lt d1.cur.lt))).trans (hb.mono (Nat.le_of_lt k1.cur.lt)), hb⟩)
              have HGC := Lib.hid (show gc ≤ w6.heap.size from Nat.le_of_lt HD6.out.cur.lt)
              have hrm := fun (y : Int) (hy0 : 0 ≤ y) => Lib.hid (show 0 ≤ (a + 1 + y) % (N : Int) ∧ (a + 1 + y) % (N : Int) < (N : Int) ∧ IntKind.i64.wrap ((a + 1 + y) % (N : Int)) = (a + 1 + y) % (N : Int) from by
                have h1 := Int.emod_nonneg (a + 1 + y) (show (N : Int) ≠ 0 by omega)
                have h2 := Int.emod_lt_of_pos (a + 1 + y) (show (0 : Int) < (N : Int) by omega)
                refine ⟨h1, h2, ?_⟩
                rw [IntKind.wrap_i64]
                omega)
              have hN0 : ((N : Int) == 0) = false := by simp; omega
              have hN7 : (N : Int) ≠ 0 := by omega
              have hN9 : ¬ N = 0 := by omega
              have hwa : IntKind.i64.wrap (a + 1) = a + 1 := by rw [IntKind.wrap_i64]; omega
              have hwn : IntKind.i64.wrap ((N : Int) - 1) = (N : Int) - 1 := by rw [IntKind.wrap_i64]; omega
              have HEJ := Lib.hid hej
              have hl8 : es.length ≤ 8 := by omega
              have hi8 : i ≤ 8 := by omega
              clear LB KD HS HT HGN HOE HLN hej
              go_wp2_with fail
              go_region_held3 (fun w' => w'.cell? ⟨w3.heap.size, 0, none⟩ = some (.int .i64 (N : Int)) ∧ w'.cell? ⟨w3.heap.size, 1, none⟩ = some (.slice A es.length c) ∧ Below gc w6 w')
                (first
                  | exact ⟨x0, x1, (Below.refl gc w6).drew⟩
                  | exact ⟨(box_facts hh8).1, (box_facts hh8).2.1, hb8⟩
                  | exact ⟨(box_facts hh7).1, (box_facts hh7).2.1, hb7⟩
                  | exact keepAl ⟨(box_facts hh8).1, (box_facts hh8).2.1, hb8⟩ HGC.out
                  | exact keepAl (by assumption) HGC.out
                  | exact keepSt (by assumption) (by constructor <;> (simp only; omega)) (by have := HGC.out; omega))
                (first
                  | (go_at_call 76; refine (C1 _ (by first | exact (Below.refl _ _).drew | exact ((Below.refl _ _).alloc (Nat.le_refl _) _).drew | exact (Below.refl _ _).drew.alloc (Nat.le_refl _) _)).out.mono ?_; rintro e w7 ⟨y, rfl, hy0, hy1, hd7, hh7, he7, hb7, hf7, hs7, hz7⟩; obtain ⟨hr0, hr1, hr2⟩ := (hrm y hy0).out; have hwy : IntKind.i64.wrap (a + 1 + y) = a + 1 + y := by rw [IntKind.wrap_i64]; omega)
                  | (go_at_call 37; refine (C2 w7 _ y hy0 hy1 hd7 hh7 he7 hb7 (by first | exact Below.refl _ _ | exact (Below.refl _ _).alloc (Nat.le_refl _) _)).out.mono ?_; rintro e w8 ⟨A8, c8, L, rfl, hg8, hlL, ho8, hd8, hh8, hb8, hbw8⟩
                     first
                       | (have hbx := bxB hbw8; obtain ⟨b0, b1, b2, b3, b4⟩ := box_facts hbx)
                       | (have hbx := bxA hf7 (Ne.symm (Nat.ne_of_lt HD6.out.cur.lt)) hbw8; obtain ⟨b0, b1, b2, b3, b4⟩ := box_facts hbx)
                       | skip))
              · have HZ := DrZ.new (c8 := c8) hd8 hh8 ho8 hh7.lt
                revert HZ
                generalize (w8.alloc (Obj.cells #[.int .i64 (N : Int), .slice A8 L.length c8] 25)) = wz
                intro HZ
                have HL := HZ.lt
                obtain ⟨s0, s1, s2, s3, s4⟩ := box_facts HZ.bx
                obtain ⟨t0, t1, t2, t3, t4⟩ := box_facts HZ.hx
                have HZ2 := Lib.hid HZ
                clear HZ
                go_wp2
                exact ⟨⟨i, L, A8, c8, rfl, by have := HEJ.out; have := hlL.out; omega, hg8, (HZ2.out.dr.store (X := w3.heap.size) (o := 0) (by omega) hgc _).store (X := w3.heap.size) (o := 1) (by omega) hgc _, (HZ2.out.hx.set_ 0 _).set_ 1 _, (ownE_far HZ2.out.ow HL _ _).mono (by omega)⟩, by simp only [intOf]; omega⟩
              · have HZ := DrZ.box (c8 := c8) hd8 hh8 hbx ho8 hgc (by omega) hh7.lt (by simp)
                revert HZ
                generalize ((w8.setCell ⟨w7.heap.size, 0, none⟩ (.int .i64 (N : Int))).setCell ⟨w7.heap.size, 1, none⟩ (.slice A8 L.length c8)) = wz
                intro HZ
                have HL := HZ.lt
                obtain ⟨s0, s1, s2, s3, s4⟩ := box_facts HZ.bx
                obtain ⟨t0, t1, t2, t3, t4⟩ := box_facts HZ.hx
                have HZ2 := Lib.hid HZ
                clear HZ
                go_wp2
                exact ⟨⟨i, L, A8, c8, rfl, by have := HEJ.out; have := hlL.out; omega, hg8, (HZ2.out.dr.store (X := w3.heap.size) (o := 0) (by omega) hgc _).store (X := w3.heap.size) (o := 1) (by omega) hgc _, (HZ2.out.hx.set_ 0 _).set_ 1 _, (ownE_far HZ2.out.ow HL _ _).mono (by omega)⟩, by simp only [intOf]; omega⟩
              · have HZ := DrZ.box (c8 := c8) hd8 hh8 hbx ho8 hgc (by omega) x4 (Nat.lt_of_lt_of_le (by show w6.heap.size < (w6.alloc _).heap.size; simp) hs7)
                revert HZ
                generalize ((w8.setCell ⟨w6.heap.size, 0, none⟩ (.int .i64 (N : Int))).setCell ⟨w6.heap.size, 1, none⟩ (.slice A8 L.length c8)) = wz
                intro HZ
                have HL := HZ.lt
                obtain ⟨s0, s1, s2, s3, s4⟩ := box_facts HZ.bx
                obtain ⟨t0, t1, t2, t3, t4⟩ := box_facts HZ.hx
                have HZ2 := Lib.hid HZ
                clear HZ
                go_wp2
                exact ⟨⟨i, L, A8, c8, rfl, by have := HEJ.out; have := hlL.out; omega, hg8, (HZ2.out.dr.store (X := w3.heap.size) (o := 0) (by omega) hgc _).store (X := w3.heap.size) (o := 1) (by omega) hgc _, (HZ2.out.hx.set_ 0 _).set_ 1 _, (ownE_far HZ2.out.ow HL _ _).mono (by omega)⟩, by simp only [intOf]; omega⟩
            · have hj0 : j = 0 := by omega
              subst hj0
              have hnj : ¬ ((0 : Nat) : Int) > 0 := by omega
              obtain ⟨z0, z1, z2, z3, z4⟩ := box_facts HD.out.res
              have hl8 : es.length ≤ 8 := by omega
              have HEO := HE.out
              have hws : w.heap.size < w3.heap.size + 1 := by omega
              go_wp2
              obtain ⟨W6, hW6⟩ : ∃ W6 : World, W6 = ((wr.setCell ⟨w.heap.size, 0, none⟩ (.int .i64 (N : Int))).setCell ⟨w.heap.size, 1, none⟩ (.slice A es.length c)) := ⟨_, rfl⟩
              rw [← hW6]
              have hb9 : Blk W6 w.heap.size 25 #[.int .i64 (N : Int), .slice A es.length c] := by rw [hW6]; exact (HD.out.res.set_ 0 _).set_ 1 _
              have hcur : Cur W6 gc A0 xs.length c0 := by
                rw [hW6]
                exact (HD.out.cur.keep (Below.heap_setCell _ _ _ _ (by show gc ≠ w.heap.size; omega))).keep (Below.heap_setCell _ _ _ _ (by show gc ≠ w.heap.size; omega))
              have hold : Below gc w W6 := by rw [hW6]; exact (HD.out.old.setCell (p := ⟨w.heap.size, 0, none⟩) (by simp only; omega) _).setCell (p := ⟨w.heap.size, 1, none⟩) (by simp only; omega) _
              have hkep : ∀ k, k ≠ gc → k < w.heap.size → W6.heap[k]? = w.heap[k]? := fun k hk1 hk2 => by
                rw [hW6]
                exact ((Below.heap_setCell _ _ _ _ (by show k ≠ w.heap.size; omega)).trans (Below.heap_setCell _ _ _ _ (by show k ≠ w.heap.size; omega))).trans (HD.out.kep k hk1 hk2)
              have hoA : OwnE W6 (w3.heap.size + 1) A es := by rw [hW6]; exact ownE_far HEO hws _ _
              obtain ⟨s0, s1, s2, s3, s4⟩ := box_facts hb9
              refine bodyPost_ret (v := .agg #[.int .i64 (N : Int), .slice A es.length c]) (by simp [results, Try.results94, go_sem, s0, s1]) rfl ⟨N, A, c, es, rfl, hN2, hN5, hl8, HGB.out, hoA.mono (by omega), hcur, hold, hkep⟩
end Go.Proofs.Ytbojbifpaecbcaa
