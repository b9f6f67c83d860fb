/- One text out of several: GEdge AddS DrawM CurN Draw Make MakeD MakeS OpenC SmHas GLw. -/
import Derived.Test.YtdpojcgeblbfeaaVBA
import Derived.Test.YtdpojcgeblbfeaaVBB
import Derived.Test.YtdpojcgeblbfeaaVBF
import Derived.Test.YtdpojcgeblbfeaaVBI
import Derived.Deep.Slices
import Derived.ChangeSlices
import Derived.OpenShut
set_option linter.all false
/- A graph of the call's own: its box, its edges, and edges that are added one by one. -/
namespace Go.Proofs.Ytdpojcgeblbfeaa
open Go.RowKit

theorem box_facts {w : World} {g : Nat} {a b : Value} (hb : Blk w g 25 #[a, b]) : w.cell? ⟨g, 0, none⟩ = some a ∧ w.cell? ⟨g, 1, none⟩ = some b ∧ w.frozen? ⟨g, 0, none⟩ = false ∧ w.frozen? ⟨g, 1, none⟩ = false ∧ g < w.heap.size :=
  ⟨by rw [hb.cell]; rfl, by rw [hb.cell]; rfl, hb.frozen 0, hb.frozen 1, hb.lt⟩
theorem own_set {w : World} {base X o n size : Nat} {e : TypeId} {v u : Value} {xs : List Value} (h : w.ownsRow base e size v n xs) (hX : X < base) : (w.setCell ⟨X, o, none⟩ u).ownsRow base e size v n xs := by
  refine ⟨h.1, h.2.imp id ?_⟩
  rintro ⟨g, cap, cur, h1, h2, h3, h4⟩
  exact ⟨g, cap, cur, h1, h2, (Below.heap_setCell _ _ _ _ (by show g ≠ X; omega)).trans h3, h4⟩
theorem ownE_of {w : World} {base n : Nat} {v : Value} {l : List (Int × Int)} (h : w.ownsRow base 121 2 v n (flat l)) : ∃ (A : Option Addr) (c : Nat), v = .slice A l.length c ∧ OwnE w base A l ∧ ∀ g off, A = some ⟨g, off, none⟩ → base ≤ g ∧ g < w.heap.size := by
  obtain ⟨hl, h⟩ := h
  rw [flat_length] at hl
  have hln : l.length = n := by omega
  rcases h with ⟨h1, h2⟩ | ⟨g, cap, cur, hv, hb, hh, hnc, _, hcs, htk⟩
  · exact ⟨none, 0, by rw [h1, hln, h2], fun hn => absurd hn (by omega), fun _ _ h => by cases h⟩
  · have hblk : Blk w g 121 cur := hh
    have hc : ∀ k u, (flat l)[k]? = some u → w.cell? ⟨g, 0 + k, none⟩ = some u := fun k u hu => by
      have hk : k < n * 2 := by
        have := (List.getElem?_eq_some_iff.1 hu).1
        rw [flat_length] at this
        omega
      rw [Nat.zero_add, hblk.cell, ← hu, ← htk, List.getElem?_take_of_lt hk, Array.getElem?_toList]
    refine ⟨some ⟨g, 0, none⟩, cap, by rw [hln]; exact hv, fun _ => ⟨g, 0, rfl, hb, hblk.lt, fun i e he => ?_⟩, fun g' off e => by
      injection e with e
      injection e with e1 _ _
      subst e1
      exact ⟨hb, hblk.lt⟩⟩
    have hf := flat_at l i e he
    exact ⟨hc _ _ hf.1, hc _ _ hf.2, hblk.frozen _, hblk.frozen _⟩
theorem ownE_far {w : World} {b X : Nat} {A : Option Addr} {es : List (Int × Int)} (h : OwnE w b A es) (hx : X < b) (u v : Value) : OwnE ((w.setCell ⟨X, 0, none⟩ u).setCell ⟨X, 1, none⟩ v) b A es := fun hn => by
  obtain ⟨g, off, rfl, h1, hg, hc⟩ := h hn
  have hbl : ((w.setCell ⟨X, 0, none⟩ u).setCell ⟨X, 1, none⟩ v).heap[g]? = w.heap[g]? := (Below.heap_setCell _ _ _ _ (by show g ≠ X; omega)).trans (Below.heap_setCell _ _ _ _ (by show g ≠ X; omega))
  have hcl : ∀ o : Nat, ((w.setCell ⟨X, 0, none⟩ u).setCell ⟨X, 1, none⟩ v).cell? ⟨g, o, none⟩ = w.cell? ⟨g, o, none⟩ := fun o => World.cell?_of_block (a := ⟨g, o, none⟩) hbl
  have hfr : ∀ o : Nat, ((w.setCell ⟨X, 0, none⟩ u).setCell ⟨X, 1, none⟩ v).frozen? ⟨g, o, none⟩ = w.frozen? ⟨g, o, none⟩ := fun o => World.frozen?_of_block (a := ⟨g, o, none⟩) hbl
  refine ⟨g, off, rfl, h1, by simpa [World.setCell] using hg, fun i z hz => ?_⟩
  rw [hcl, hcl, hfr, hfr]
  exact hc i z hz
theorem two_cells (W : World) (g : Nat) (hg : g = W.heap.size) (t : TypeId) (u v : Value) (j : Nat) (x : Value) (h : [u, v][j]? = some x) : (W.alloc (.cells #[u, v] t)).cell? ((⟨g, 0, none⟩ : Addr).add j) = some x := by
  subst hg
  rw [Addr.add_lit, Nat.zero_add, (Blk.new W t #[u, v]).cell]
  simpa using h
theorem flat_app (a b : List (Int × Int)) : flat (a ++ b) = flat a ++ flat b := by
  induction a with
  | nil => rfl
  | cons x l ih => simp only [List.cons_append, flat, ih]
end Go.Proofs.Ytdpojcgeblbfeaa

/- AddEdge: the plain function; the specification's side. -/
namespace Go.Proofs.Ytdpojcgeblbfeaa
open Go.RowKit

end Go.Proofs.Ytdpojcgeblbfeaa

/- A drawn graph, the plain math: a tree, its edges in order, and edges that are inserted. -/
namespace Go.Proofs.Ytdpojcgeblbfeaa
open Go.RowKit

theorem ltE_irr (x : Int × Int) : ltE x x = false := by simp [ltE]
theorem ltE_asymm {x y : Int × Int} (h : ltE x y = true) : ltE y x = false := by
  simp only [ltE, Bool.or_eq_true, Bool.and_eq_true, decide_eq_true_eq, Bool.or_eq_false_iff, Bool.and_eq_false_iff, decide_eq_false_iff_not] at h ⊢
  omega
def Srt (es : List (Int × Int)) : Prop := es.Pairwise fun x y => ltE y x = false
theorem srt_ordB {es : List (Int × Int)} (h : Srt es) : ordB es = true := ordB_true fun i hi => by
  rw [pairBad_eq (List.getElem?_eq_getElem (by omega)) (List.getElem?_eq_getElem hi)]
  unfold Srt at h
  rw [List.pairwise_iff_getElem] at h
  exact h i (i + 1) (by omega) hi (by omega)
theorem edgesB_of {N : Int} {es : List (Int × Int)} (h1 : 1 ≤ N) (h2 : N ≤ 6) (h3 : es.length ≤ 12) (h4 : ∀ e ∈ es, 0 ≤ e.1 ∧ e.1 < e.2 ∧ e.2 < N) : edgesB N es = true := by
  simp only [edgesB, Bool.and_eq_true, decide_eq_true_eq, List.all_eq_true]
  refine ⟨⟨⟨h1, h2⟩, h3⟩, fun e he => ?_⟩
  have := h4 e he
  simp only [edgeOk, Bool.and_eq_true, decide_eq_true_eq]
  omega
theorem graphB_of {N : Int} {es : List (Int × Int)} (h1 : edgesB N es = true) (h2 : Srt es) (h3 : Conn N es) : graphB N es = true := by
  simp [graphB, h1, srt_ordB h2, connB_t h3]
theorem Near.sub {es fs : List (Int × Int)} (h : ∀ e ∈ es, e ∈ fs) {v u : Int} {k : Nat} (n : Near es v k u) : Near fs v k u := by
  induction n with
  | start => exact .start
  | stay _ ih => exact .stay ih
  | step _ ht ih => exact .step ih (ht.imp (h _) (h _))
def TreeL (l : List (Int × Int)) : Prop := ∀ (i : Nat) (x : Int × Int), l[i]? = some x → x.2 = (i : Int) + 1 ∧ 0 ≤ x.1 ∧ x.1 ≤ (i : Int)
theorem TreeL.nil : TreeL [] := fun i x h => by simp at h
theorem TreeL.push {l : List (Int × Int)} (h : TreeL l) {a : Int} (h0 : 0 ≤ a) (h1 : a ≤ (l.length : Int)) : TreeL (l ++ [(a, (l.length : Int) + 1)]) := fun i x hx => by
  rcases Nat.lt_or_ge i l.length with g | g
  · rw [List.getElem?_append_left g] at hx
    exact h i x hx
  · rw [List.getElem?_append_right g] at hx
    have hi : i - l.length = 0 := by
      have := (List.getElem?_eq_some_iff.1 hx).1
      simp at this
      omega
    rw [hi] at hx
    simp at hx
    subst hx
    simp only
    omega
theorem TreeL.mem {l : List (Int × Int)} (h : TreeL l) {x : Int × Int} (hx : x ∈ l) : 0 ≤ x.1 ∧ x.1 < x.2 ∧ x.2 ≤ (l.length : Int) := by
  obtain ⟨i, hi⟩ := List.getElem?_of_mem hx
  have := h i x hi
  have := (List.getElem?_eq_some_iff.1 hi).1
  omega
theorem nodupP_of {l : List (Int × Int)} (h : ∀ (i j : Nat) (x : Int × Int), l[i]? = some x → l[j]? = some x → i = j) : l.Nodup := by
  rw [List.nodup_iff_pairwise_ne, List.pairwise_iff_getElem]
  intro i j hi hj hij he
  have := h i j l[i] (List.getElem?_eq_getElem hi) (by rw [he]; exact List.getElem?_eq_getElem hj)
  omega
theorem TreeL.nodup {l : List (Int × Int)} (h : TreeL l) : l.Nodup := nodupP_of fun i j x hi hj => by
  have h1 := (h i x hi).1
  have h2 := (h j x hj).1
  omega
theorem nodup_lenP : ∀ (l m : List (Int × Int)), l.Nodup → (∀ x ∈ l, x ∈ m) → l.length ≤ m.length
  | [], m, _, _ => Nat.zero_le _
  | a :: l, m, hd, hs => by
    rw [List.nodup_cons] at hd
    have ha : a ∈ m := hs a (by simp)
    have h1 := nodup_lenP l (m.erase a) hd.2 fun x hx => (List.mem_erase_of_ne (by rintro rfl; exact hd.1 hx)).2 (hs x (by simp [hx]))
    have h2 := List.length_erase_of_mem ha
    have h3 := List.length_pos_of_mem ha
    rw [List.length_cons]
    omega
structure Upto (l hs : List (Int × Int)) (a b : Int) : Prop where
  srt : hs.Pairwise fun x y => ltE x y = true
  mem : ∀ x ∈ hs, x ∈ l ∧ ltE x (a, b) = true
  all : ∀ x ∈ l, ltE x (a, b) = true → x ∈ hs
theorem Upto.start {l : List (Int × Int)} (h : TreeL l) : Upto l [] 0 1 := ⟨List.Pairwise.nil, (fun x hx => by cases hx), fun x hx hlt => by
  have := h.mem hx
  simp only [ltE, Bool.or_eq_true, Bool.and_eq_true, decide_eq_true_eq] at hlt
  omega⟩
theorem Upto.skip {l hs : List (Int × Int)} {a b : Int} (h : Upto l hs a b) (hn : ¬ (a, b) ∈ l) : Upto l hs a (b + 1) := ⟨h.srt, fun x hx => ⟨(h.mem x hx).1, by
  have := (h.mem x hx).2
  simp only [ltE, Bool.or_eq_true, Bool.and_eq_true, decide_eq_true_eq] at this ⊢
  omega⟩, fun x hx hlt => by
  by_cases e : x = (a, b)
  · rw [e] at hx; exact absurd hx hn
  · refine h.all x hx ?_
    have : ¬ (x.1 = a ∧ x.2 = b) := fun g => e (Prod.ext g.1 g.2)
    simp only [ltE, Bool.or_eq_true, Bool.and_eq_true, decide_eq_true_eq] at hlt ⊢
    omega⟩
theorem Upto.take {l hs : List (Int × Int)} {a b : Int} (h : Upto l hs a b) (hm : (a, b) ∈ l) : Upto l (hs ++ [(a, b)]) a (b + 1) := ⟨by
  rw [List.pairwise_append]
  exact ⟨h.srt, List.pairwise_singleton _ _, fun x hx y hy => by
    rw [List.mem_singleton] at hy
    subst hy
    exact (h.mem x hx).2⟩, fun x hx => by
  rw [List.mem_append, List.mem_singleton] at hx
  rcases hx with hx | rfl
  · refine ⟨(h.mem x hx).1, ?_⟩
    have := (h.mem x hx).2
    simp only [ltE, Bool.or_eq_true, Bool.and_eq_true, decide_eq_true_eq] at this ⊢
    omega
  · refine ⟨hm, ?_⟩
    have : b < b + 1 := by omega
    simp [ltE, this], fun x hx hlt => by
  rw [List.mem_append, List.mem_singleton]
  by_cases e : x = (a, b)
  · exact .inr e
  · refine .inl (h.all x hx ?_)
    have : ¬ (x.1 = a ∧ x.2 = b) := fun g => e (Prod.ext g.1 g.2)
    simp only [ltE, Bool.or_eq_true, Bool.and_eq_true, decide_eq_true_eq] at hlt ⊢
    omega⟩
theorem Upto.row {l hs : List (Int × Int)} {a n : Int} (h : Upto l hs a n) (ht : TreeL l) (hn : (l.length : Int) + 1 = n) : Upto l hs (a + 1) (a + 2) := ⟨h.srt, fun x hx => ⟨(h.mem x hx).1, by
  have := (h.mem x hx).2
  simp only [ltE, Bool.or_eq_true, Bool.and_eq_true, decide_eq_true_eq] at this ⊢
  omega⟩, fun x hx hlt => h.all x hx (by
  have := ht.mem hx
  simp only [ltE, Bool.or_eq_true, Bool.and_eq_true, decide_eq_true_eq] at hlt ⊢
  omega)⟩
theorem Upto.len {l hs : List (Int × Int)} {a b : Int} (h : Upto l hs a b) : hs.length ≤ l.length :=
  nodup_lenP hs l (List.nodup_iff_pairwise_ne.2 (h.srt.imp fun {x y} hxy e => by rw [e, ltE_irr] at hxy; cases hxy)) fun x hx => (h.mem x hx).1
theorem Upto.done {l hs : List (Int × Int)} {n b : Int} (h : Upto l hs n b) (ht : TreeL l) (hn : (l.length : Int) + 1 = n) (h1 : 1 ≤ n) (h6 : n ≤ 6) : graphB n hs = true := by
  have hall : ∀ x ∈ l, x ∈ hs := fun x hx => h.all x hx (by
    have := ht.mem hx
    simp only [ltE, Bool.or_eq_true, Bool.and_eq_true, decide_eq_true_eq]
    omega)
  have hlen := h.len
  refine graphB_of (edgesB_of h1 h6 (by omega) fun x hx => ?_) (h.srt.imp fun {x y} hxy => ltE_asymm hxy) fun u hu0 hu1 => ?_
  · have := ht.mem (h.mem x hx).1
    omega
  · obtain ⟨m, rfl⟩ : ∃ m : Nat, u = (m : Int) := ⟨u.toNat, by omega⟩
    clear hu0
    induction m using Nat.strongRecOn with
    | _ m ih =>
      cases m with
      | zero => exact ⟨0, .start⟩
      | succ m =>
        have hml : m < l.length := by omega
        obtain ⟨h2, h3, h4⟩ := ht m l[m] (List.getElem?_eq_getElem hml)
        obtain ⟨k, nk⟩ := ih l[m].1.toNat (by omega) (by omega)
        rw [show ((l[m].1.toNat : Nat) : Int) = l[m].1 by omega] at nk
        refine ⟨k + 1, .step nk (.inl ?_)⟩
        have := hall l[m] (List.getElem_mem hml)
        rwa [show l[m] = (l[m].1, ((m + 1 : Nat) : Int)) from Prod.ext rfl (by rw [h2]; omega)] at this
end Go.Proofs.Ytdpojcgeblbfeaa

/- The specification's cursor over the bytes of a code, without its strings: what its functions hand back, whatever the bytes are. -/
namespace Go.Proofs.Ytdpojcgeblbfeaa
open Go.RowKit

def CodeS (w : World) (B : Nat) (A : Option Addr) (xs : List Int) : Prop :=
  (∀ z ∈ xs, 0 ≤ z ∧ z ≤ 255) ∧ (0 < xs.length → ∃ b off : Nat, A = some ⟨b, off, none⟩ ∧ b < B ∧ ∀ (i : Nat) (z : Int), xs[i]? = some z → w.cell? ⟨b, off + i, none⟩ = some (.int .u8 z))
theorem CodeS.at_ {w : World} {B : Nat} {A : Option Addr} {xs : List Int} (h : CodeS w B A xs) {k : Nat} (hk : k < xs.length) :
    ∃ (b off : Nat) (z : Int), A = some ⟨b, off, none⟩ ∧ b < B ∧ w.cell? ⟨b, off + k, none⟩ = some (.int .u8 z) ∧ 0 ≤ z ∧ z ≤ 255 := by
  obtain ⟨b, off, e, hb, hc⟩ := h.2 (by omega)
  have h2 := h.1 xs[k] (List.getElem_mem hk)
  exact ⟨b, off, xs[k], e, hb, hc k _ (List.getElem?_eq_getElem hk), h2.1, h2.2⟩
theorem CodeS.keep {w w' : World} {B : Nat} {A : Option Addr} {xs : List Int} (h : CodeS w B A xs) (hb : Below B w w') : CodeS w' B A xs :=
  ⟨h.1, fun hn => by
    obtain ⟨b, off, e, hb1, hc⟩ := h.2 hn
    exact ⟨b, off, e, hb1, fun i z hz => (hb.cell hb1).trans (hc i z hz)⟩⟩
def Cur (w : World) (g : Nat) (A : Option Addr) (n c : Nat) : Prop := ∃ (i : Nat) (h : Int), i ≤ n ∧ -9223372036854775808 ≤ h ∧ h ≤ 9223372036854775807 ∧ Blk w g 108 #[.slice A n c, .int .i64 i, .int .i64 h]
theorem CodeS.up {w : World} {B B' : Nat} {A : Option Addr} {xs : List Int} (h : CodeS w B A xs) (hB : B ≤ B') : CodeS w B' A xs :=
  ⟨h.1, fun hn => by
    obtain ⟨b, off, e, hb2, hc⟩ := h.2 hn
    exact ⟨b, off, e, by omega, hc⟩⟩
end Go.Proofs.Ytdpojcgeblbfeaa

/- The specification's l02Draw: what it draws is a valid graph of its own. -/
namespace Go.Proofs.Ytdpojcgeblbfeaa
open Go.RowKit

theorem own_keep2 {w w' : World} {base n size : Nat} {t : TypeId} {v : Value} {xs : List Value} (h : w.ownsRow base t size v n xs) (hk : ∀ g, base ≤ g → g < w.heap.size → w'.heap[g]? = w.heap[g]?) : w'.ownsRow base t size v n xs := by
  refine ⟨h.1, ?_⟩
  rcases h.2 with g | ⟨g, cap, cur, hv, hb, hh, rest⟩
  · exact .inl g
  · refine .inr ⟨g, cap, cur, hv, hb, ?_, rest⟩
    rw [hk g hb (Array.getElem?_eq_some_iff.1 hh).1]
    exact hh
theorem Cur.below {w w' : World} {g n c : Nat} {A : Option Addr} (h : Cur w g A n c) (hb : Below w.heap.size w w') : Cur w' g A n c := by
  obtain ⟨i, x, h1, h2, h3, h4⟩ := h
  exact ⟨i, x, h1, h2, h3, h4.below hb h4.lt⟩
theorem Cur.keep {w w' : World} {g n c : Nat} {A : Option Addr} (h : Cur w g A n c) (hb : w'.heap[g]? = w.heap[g]?) : Cur w' g A n c := by
  obtain ⟨i, x, h1, h2, h3, h4⟩ := h
  exact ⟨i, x, h1, h2, h3, hb.trans h4⟩
theorem Cur.lt {w : World} {g n c : Nat} {A : Option Addr} (h : Cur w g A n c) : g < w.heap.size := by
  obtain ⟨i, x, h1, h2, h3, h4⟩ := h
  exact h4.lt
structure DrW (w wr : World) (gc : Nat) (A : Option Addr) (n c : Nat) : Prop where
  cur : Cur wr gc A n c
  old : Below gc w wr
  res : Blk wr w.heap.size 25 #[.int .i64 0, .slice none 0 0]
  kep : ∀ k, k ≠ gc → k < w.heap.size → wr.heap[k]? = w.heap[k]?
theorem DrW.next {w wr w2 : World} {gc n c : Nat} {A : Option Addr} (h : DrW w wr gc A n c) (hb : Below wr.heap.size wr w2) : DrW w w2 gc A n c :=
  ⟨h.cur.below hb, h.old.trans (hb.mono (Nat.le_of_lt h.cur.lt)), h.res.below hb h.res.lt, fun k h1 h2 => (hb.block k (Nat.lt_of_lt_of_le h2 h.old.size)).trans (h.kep k h1 h2)⟩
theorem DrW.store {w wr : World} {gc n c X o : Nat} {A : Option Addr} (h : DrW w wr gc A n c) (hX : w.heap.size < X) (hgc : gc < w.heap.size) (u : Value) : DrW w (wr.setCell ⟨X, o, none⟩ u) gc A n c :=
  ⟨h.cur.keep (Below.heap_setCell _ _ _ _ (by show gc ≠ X; omega)), h.old.setCell (p := ⟨X, o, none⟩) (by simp only; omega) _, h.res.far (p := ⟨X, o, none⟩) (by simp only; omega) _, fun k h1 h2 => (Below.heap_setCell _ _ _ _ (by show k ≠ X; omega)).trans (h.kep k h1 h2)⟩
structure DrZ (w wz : World) (gc : Nat) (A : Option Addr) (n c X P B : Nat) (NI : Int) (V : Value) (A8 : Option Addr) (c8 : Nat) (L : List (Int × Int)) : Prop where
  dr : DrW w wz gc A n c
  hx : Blk wz X 25 #[.int .i64 NI, V]
  bx : Blk wz P 25 #[.int .i64 NI, .slice A8 L.length c8]
  ow : OwnE wz B A8 L
  lt : X < B
theorem DrZ.box {w w8 : World} {gc n c X P B : Nat} {A A8 : Option Addr} {NI : Int} {V u v : Value} {c8 : Nat} {L : List (Int × Int)} (hd : DrW w w8 gc A n c) (hx : Blk w8 X 25 #[.int .i64 NI, V]) (hb : Blk w8 P 25 #[u, v]) (ho : OwnE w8 B A8 L)
    (hgc : gc < w.heap.size) (h1 : w.heap.size < P) (h2 : X < P) (h3 : P < B) : DrZ w ((w8.setCell ⟨P, 0, none⟩ (.int .i64 NI)).setCell ⟨P, 1, none⟩ (.slice A8 L.length c8)) gc A n c X P B NI V A8 c8 L :=
  ⟨(hd.store h1 hgc _).store h1 hgc _, (hx.far (p := ⟨P, 0, none⟩) (by simp only; omega) _).far (p := ⟨P, 1, none⟩) (by simp only; omega) _, (hb.set_ 0 _).set_ 1 _, ownE_far ho h3 _ _, by omega⟩
theorem DrZ.new {w w8 : World} {gc n c X B : Nat} {A A8 : Option Addr} {NI : Int} {V : Value} {c8 : Nat} {L : List (Int × Int)} (hd : DrW w w8 gc A n c) (hx : Blk w8 X 25 #[.int .i64 NI, V]) (ho : OwnE w8 B A8 L) (h2 : X < B) :
    DrZ w (w8.alloc (.cells #[.int .i64 NI, .slice A8 L.length c8] 25)) gc A n c X w8.heap.size B NI V A8 c8 L :=
  ⟨hd.next ((Below.refl _ _).alloc (Nat.le_refl _) _), hx.alloc _, Blk.new w8 _ _, ho.below ((Below.refl _ _).alloc (Nat.le_refl _) _), h2⟩
end Go.Proofs.Ytdpojcgeblbfeaa

/- What the specification makes of a code: a valid graph, a divisor, a script, a configuration: whatever the bytes are. -/
namespace Go.Proofs.Ytdpojcgeblbfeaa
open Go.RowKit

end Go.Proofs.Ytdpojcgeblbfeaa

/- What the specification makes of a code: a divisor, a script, a configuration: whatever the bytes are. -/
namespace Go.Proofs.Ytdpojcgeblbfeaa
open Go.RowKit


structure MkW (w wr : World) (gc X B L : Nat) (A : Option Addr) (n c : Nat) (N : Int) (V s : Value) (l : List Int) : Prop where
  cur : Cur wr gc A n c
  old : Below L w wr
  box : Blk wr X 25 #[.int .i64 N, V]
  own : wr.ownsRow B 3 1 s l.length (intCells l)
  kep : ∀ k, k ≠ gc → k < w.heap.size → wr.heap[k]? = w.heap[k]?
section
variable {w wr w2 : World} {gc X B L n c : Nat} {A : Option Addr} {N : Int} {V s : Value} {l : List Int}
theorem MkW.next (h : MkW w wr gc X B L A n c N V s l) (hw : w.heap.size ≤ B) (hB : B ≤ wr.heap.size) (hL : L ≤ B) (hb : Below wr.heap.size wr w2) : MkW w w2 gc X B L A n c N V s l :=
  ⟨h.cur.below hb, h.old.trans (hb.mono (by omega)), h.box.below hb h.box.lt, own_below h.own hb, fun k h1 h2 => (hb.block k (by omega)).trans (h.kep k h1 h2)⟩
theorem MkW.push {v' : Value} {l' : List Int} {row : Option Nat} (h : MkW w wr gc X B L A n c N V s l) (hw : w.heap.size ≤ B) (hB : B ≤ wr.heap.size) (hL : L ≤ B) (hX : X < B) (hg : gc < B) (hlt : ∀ q, row = some q → B ≤ q) (hgr : wr.grownBy w2 row) (ho : w2.ownsRow B 3 1 v' l'.length (intCells l')) : MkW w w2 gc X B L A n c N V v' l' :=
  ⟨h.cur.keep (hgr.block gc h.cur.lt (fun e => by have := hlt gc e.symm; omega)), h.old.grown hgr (by omega) (fun q hq => by have := hlt q hq; omega), h.box.grown hgr (fun e => by have := hlt X e; omega), ho, fun k h1 h2 => (hgr.block k (by omega) (fun e => by have := hlt k e.symm; omega)).trans (h.kep k h1 h2)⟩
end
end Go.Proofs.Ytdpojcgeblbfeaa

/- What the specification makes of a code: a script, a configuration: whatever the bytes are. -/
namespace Go.Proofs.Ytdpojcgeblbfeaa
open Go.RowKit

theorem OwnI.store {w : World} {base g off q : Nat} {l : List Int} {x : Int} (h : OwnI w base (some ⟨g, off, none⟩) l) (hq : q < l.length) : OwnI (w.setCell ⟨g, off + q, none⟩ (.int .i64 x)) base (some ⟨g, off, none⟩) (l.set q x) := fun _ => by
  obtain ⟨g', off', e, h1, hg, hc⟩ := h (by omega)
  simp only [Option.some.injEq, Addr.mk.injEq, and_true] at e
  obtain ⟨rfl, rfl⟩ := e
  refine ⟨g, off, rfl, h1, by simpa [World.setCell] using hg, fun i z hz => ⟨?_, ?_⟩⟩
  · have hil : i < l.length := by
      have := (List.getElem?_eq_some_iff.1 hz).1
      simpa using this
    by_cases e : i = q
    · subst e
      have h3 := (hc i l[i] (List.getElem?_eq_getElem hil)).1
      rw [List.getElem?_set_self hil] at hz
      injection hz with hz
      subst hz
      exact World.cell?_setCell_same (h := h3) ..
    · rw [List.getElem?_set_ne (Ne.symm e)] at hz
      have hne : (⟨g, off + q, none⟩ : Addr) ≠ ⟨g, off + i, none⟩ := by
        intro he
        simp only [Addr.mk.injEq] at he
        omega
      exact (World.cell?_setCell_other (h := hne) ..).trans (hc i z hz).1
  · have hil : i < l.length := by
      have := (List.getElem?_eq_some_iff.1 hz).1
      simpa using this
    rw [World.frozen?_setCell]
    exact (hc i l[i] (List.getElem?_eq_getElem hil)).2
end Go.Proofs.Ytdpojcgeblbfeaa

/- A code (a slice of bytes) that came in, opened. -/
namespace Go.Proofs.Ytdpojcgeblbfeaa
open Go.ChangeShapes Go.WideShapes Go.ChangeAt Go.RowKit Go.WideElems Go.Deep

section
variable {H : Type} {enc : TypeId × Value → H} {W : World} {base : Nat}
end
end Go.Proofs.Ytdpojcgeblbfeaa

/- The laws' own same and has. -/
namespace Go.Proofs.Ytdpojcgeblbfeaa
open Go.RowKit

end Go.Proofs.Ytdpojcgeblbfeaa

/- What the walk of a law over a drawn graph holds. -/
namespace Go.Proofs.Ytdpojcgeblbfeaa
open Go.RowKit

structure GLaw (w wc : World) (X M : Nat) (A : Option Addr) (c : Nat) (es : List (Int × Int)) : Prop where
  old : Below w.heap.size w wc
  box : Blk wc X 25 #[.int .i64 (M : Int), .slice A es.length c]
  own : OwnE wc w.heap.size A es
theorem GLaw.next {w wc wd : World} {X M c : Nat} {A : Option Addr} {es : List (Int × Int)} (h : GLaw w wc X M A c es) (hb : Below wc.heap.size wc wd) : GLaw w wd X M A c es :=
  ⟨h.old.trans (hb.mono h.old.size), h.box.below hb h.box.lt, h.own.below hb⟩
end Go.Proofs.Ytdpojcgeblbfeaa
