/- One text out of several: CmpE Sorted Reach Queue GraphS GraphF. -/
import Derived.Test.YtdpojcgeblbfeaaVBA
import Derived.Test.YtdpojcgeblbfeaaVSh
import Derived.Test.YtdpojcgeblbfeaaVBF
import Derived.BigQuiet
set_option linter.all false
/- The order of edges: the program's compareEdges, and whether a slice of edges is in order. -/
namespace Go.Proofs.Ytdpojcgeblbfeaa
open Go.RowKit

def orE (p q : Int) : Int := if p ≠ 0 then p else q
theorem orE_pos {p q : Int} (h : ¬ p = 0) : orE p q = p := by rw [orE, if_pos h]
theorem orE_neg {p q : Int} (h : p = 0) : orE p q = q := by rw [orE, h]; rfl
def cmpE (a b : Int × Int) : Int := orE (Lib.compareInt a.1 b.1) (Lib.compareInt a.2 b.2)

set_option maxHeartbeats 400000 in
theorem or2_any (b c : Nat) (p q : Int) (w : World) (h0 : w.cell? ⟨b, 0, none⟩ = some (.int .i64 p)) (h1 : w.cell? ⟨b, 1, none⟩ = some (.int .i64 q)) :
    Calls Try.prog 164 #[.slice (some ⟨b, 0, none⟩) 2 c] w fun e w' => e = .returned (.int .i64 (orE p q)) ∧ w = w' := by
  have H0 := Lib.hid h0
  have H1 := Lib.hid h1
  clear h0 h1
  go_enter Try.func164, Try.ntmps164
  go_wp2
  go_loopw [8] (fun i wr => ∃ k : Nat, k ≤ 2 ∧ i = .int .i64 k ∧ (1 ≤ k → p = 0) ∧ (2 ≤ k → q = 0) ∧ w = wr) (fun i _ => 2 - (intOf i).toNat)
  case atStart => exact ⟨0, by omega, rfl, by omega, by omega, rfl⟩
  case round =>
    obtain ⟨k, hk, rfl, hp, hq, rfl⟩ := hrel
    by_cases hk0 : k = 0
    · subst hk0
      have c0 := H0.out
      by_cases hz : p = 0
      · have hb : (p != 0) = false := by simp [hz]
        have HZ := Lib.hid hz
        clear hz hp hq
        go_wp2
        exact ⟨⟨1, by omega, by go_num, fun _ => HZ.out, by omega, by trivial⟩, by simp [intOf]⟩
      · have hb : (p != 0) = true := by simp [hz]
        have HZ := Lib.hid (orE_pos (q := q) hz)
        clear hz hp hq
        go_wp2
        go_ret
        exact ⟨ret_intE HZ.out.symm, by trivial⟩
    by_cases hk1 : k = 1
    · subst hk1
      have c1 := H1.out
      have HP := Lib.hid (hp (by omega))
      have HR := Lib.hid (orE_neg (q := q) HP.out)
      by_cases hz : q = 0
      · have hb : (q != 0) = false := by simp [hz]
        have HZ := Lib.hid hz
        clear hz hp hq
        go_wp2
        exact ⟨⟨2, by omega, by go_num, fun _ => HP.out, fun _ => HZ.out, by trivial⟩, by simp [intOf]⟩
      · have hb : (q != 0) = true := by simp [hz]
        clear hz hp hq
        go_wp2
        go_ret
        exact ⟨ret_intE HR.out.symm, by trivial⟩
    · have hk2 : k = 2 := by omega
      subst hk2
      have HP := Lib.hid (hp (by omega))
      have HQ := Lib.hid (hq (by omega))
      have HR := Lib.hid ((orE_neg (q := q) HP.out).trans HQ.out)
      clear hp hq
      go_wp2
      go_ret
      exact ⟨ret_intE HR.out.symm, by trivial⟩

theorem cell_new0 (w : World) (t : TypeId) (u v : Value) : (w.alloc (.cells #[u, v] t)).drew.cell? ⟨w.heap.size, 0, none⟩ = some u := by rw [(Blk.new w t #[u, v]).drew.cell]; rfl
theorem cell_new1 (w : World) (t : TypeId) (u v : Value) : (w.alloc (.cells #[u, v] t)).drew.cell? ⟨w.heap.size, 1, none⟩ = some v := by rw [(Blk.new w t #[u, v]).drew.cell]; rfl
theorem keep4a {w W : World} {p q r s : Addr} {a b c d : Value} (hS : W.cell? p = some a ∧ W.cell? q = some b ∧ W.cell? r = some c ∧ W.cell? s = some d ∧ Below w.heap.size w W) (o : Obj)
    (hp : p.block < w.heap.size) (hq : q.block < w.heap.size) (hr : r.block < w.heap.size) (hs : s.block < w.heap.size) :
    (W.alloc o).cell? p = some a ∧ (W.alloc o).cell? q = some b ∧ (W.alloc o).cell? r = some c ∧ (W.alloc o).cell? s = some d ∧ Below w.heap.size w (W.alloc o) := keep4 hS ((Below.refl _ _).alloc (Nat.le_refl _) _) hp hq hr hs

set_option maxHeartbeats 1000000 in
theorem compareEdges_any (a b c d : Int) (w : World) :
    Calls Try.prog 113 #[.agg #[.int .i64 a, .int .i64 b], .agg #[.int .i64 c, .int .i64 d]] w fun e w' => e = .returned (.int .i64 (cmpE (a, b) (c, d))) ∧ Below w.heap.size w w' := by
  go_enter Try.func113, Try.ntmps113
  go_wp2_with fail
  have hx1 := (Blk.new w 121 #[.int .i64 a, .int .i64 b]).alloc (Obj.cells #[.int .i64 c, .int .i64 d] 121)
  have hx2 := Blk.new (w.alloc (Obj.cells #[.int .i64 a, .int .i64 b] 121)) 121 #[.int .i64 c, .int .i64 d]
  have hb0 : Below w.heap.size w ((w.alloc (Obj.cells #[.int .i64 a, .int .i64 b] 121)).alloc (Obj.cells #[.int .i64 c, .int .i64 d] 121)) := ((Below.refl _ _).alloc (Nat.le_refl _) _).alloc (by simp) _
  rw [World.size_alloc] at hx2
  obtain ⟨W, hW⟩ : ∃ W : World, W = ((w.alloc (Obj.cells #[.int .i64 a, .int .i64 b] 121)).alloc (Obj.cells #[.int .i64 c, .int .i64 d] 121)) := ⟨_, rfl⟩
  rw [← hW] at hx1 hx2 hb0 ⊢
  have l1 := hx1.lt
  have l2 := hx2.lt
  have c0 : W.cell? ⟨w.heap.size, 0, none⟩ = some (.int .i64 a) := by rw [hx1.cell]; rfl
  have c1 : W.cell? ⟨w.heap.size, 1, none⟩ = some (.int .i64 b) := by rw [hx1.cell]; rfl
  have d0 : W.cell? ⟨w.heap.size + 1, 0, none⟩ = some (.int .i64 c) := by rw [hx2.cell]; rfl
  have d1 : W.cell? ⟨w.heap.size + 1, 1, none⟩ = some (.int .i64 d) := by rw [hx2.cell]; rfl
  have HB := Lib.hid hb0
  clear hx1 hx2 hb0 hW
  go_wp2_with fail
  go_region_held3 (fun w' => w'.cell? ⟨w.heap.size, 0, none⟩ = some (.int .i64 a) ∧ w'.cell? ⟨w.heap.size, 1, none⟩ = some (.int .i64 b) ∧ w'.cell? ⟨w.heap.size + 1, 0, none⟩ = some (.int .i64 c) ∧ w'.cell? ⟨w.heap.size + 1, 1, none⟩ = some (.int .i64 d) ∧ Below W.heap.size W w')
    (first
      | exact ⟨c0, c1, d0, d1, (Below.refl _ _).drew⟩
      | assumption
      | exact keep4a (by assumption) _ l1 l1 l2 l2)
    (first
      | (go_at_call 165; refine (Try.cmp_Compare_int _ _ _).mono ?_; rintro e w6 ⟨rfl, rfl⟩)
      | (go_at_call 164; refine (or2_any _ _ _ _ _ (cell_new0 _ _ _ _) (cell_new1 _ _ _ _)).mono ?_; rintro e w7 ⟨rfl, rfl⟩))
  all_goals
    go_wp2
    go_ret
    exact ⟨rfl, HB.out.trans (Below.mono (And.right (And.right (And.right (And.right (by assumption))))) HB.out.size)⟩
end Go.Proofs.Ytdpojcgeblbfeaa

/- Whether a list of edges is in order, and the program's test of it. -/
namespace Go.Proofs.Ytdpojcgeblbfeaa
open Go.RowKit

def ltE (b a : Int × Int) : Bool := decide (b.1 < a.1) || (decide (b.1 = a.1) && decide (b.2 < a.2))
theorem cmpE_lt (b a : Int × Int) : decide (cmpE b a < 0) = ltE b a := by
  unfold cmpE orE ltE Lib.compareInt
  rcases Int.lt_trichotomy b.1 a.1 with h | h | h
  · have h2 : ¬ a.1 < b.1 := by omega
    simp [h]
  · rw [h]
    rcases Int.lt_trichotomy b.2 a.2 with g | g | g
    · simp [g]
    · simp [g]
    · have g2 : ¬ b.2 < a.2 := by omega
      simp [g, g2]
  · have h2 : ¬ b.1 < a.1 := by omega
    have h3 : ¬ b.1 = a.1 := by omega
    simp [h, h2, h3]
def pairBad (es : List (Int × Int)) (i : Nat) : Bool := match es[i]?, es[i + 1]? with
  | some a, some b => ltE b a
  | _, _ => false
theorem pairBad_eq {es : List (Int × Int)} {i : Nat} {a b : Int × Int} (ha : es[i]? = some a) (hb : es[i + 1]? = some b) : pairBad es i = ltE b a := by simp only [pairBad, ha, hb]
def ordB (es : List (Int × Int)) : Bool := (List.range es.length).all fun i => !pairBad es i
theorem ordB_true {es : List (Int × Int)} (h : ∀ i, i + 1 < es.length → pairBad es i = false) : ordB es = true := by
  unfold ordB
  rw [List.all_eq_true]
  intro i _
  by_cases hl : i + 1 < es.length
  · simp [h i hl]
  · have : es[i + 1]? = none := List.getElem?_eq_none (by omega)
    unfold pairBad
    rw [this]
    cases es[i]? <;> rfl
theorem ordB_false {es : List (Int × Int)} {i : Nat} (h : pairBad es i = true) : ordB es = false := by
  unfold ordB
  rw [List.all_eq_false]
  refine ⟨i, ?_, by simp [h]⟩
  rw [List.mem_range]
  rcases Nat.lt_or_ge i es.length with g | g
  · exact g
  · rw [pairBad, List.getElem?_eq_none g] at h
    cases h

set_option maxHeartbeats 1000000 in
theorem isSorted_any (A : Option Addr) (c : Nat) (es : List (Int × Int)) (w : World) (hn : es.length ≤ 1048576) (hE : EdgeS w w.heap.size A es) :
    Calls Try.prog 112 #[.slice A es.length c, .func (.func 113) #[] #[]] w fun e w' => e = .returned (.bool (ordB es)) ∧ Below w.heap.size w w' := by
  have HE := Lib.hid hE
  clear hE
  go_enter Try.func112, Try.ntmps112
  go_wp2
  go_loopw [5] (fun i wr => ∃ z : Int, -1 ≤ z ∧ z < es.length ∧ i = .int .i64 z ∧ (∀ j : Nat, z ≤ j → j + 1 < es.length → pairBad es j = false) ∧ Below w.heap.size w wr) (fun i _ => (intOf i).toNat)
  case atStart => exact ⟨(es.length : Int) - 1, by omega, by omega, rfl, fun j h1 h2 => by omega, Below.refl _ _⟩
  case round =>
    obtain ⟨z, hz0, hz1, rfl, hgood, hb⟩ := hrel
    have HG := Lib.hid hgood
    clear hgood
    by_cases hz : 0 < z
    · obtain ⟨k, rfl⟩ : ∃ k : Nat, z = (k : Int) + 1 := ⟨(z - 1).toNat, by omega⟩
      obtain ⟨b1, o1, e, hA1, hb1, he, hc0, hc1⟩ := (HE.out.below hb).at_ (k := k + 1) (by omega)
      obtain ⟨b2, o2, f, hA2, hb2, hf, hd0, hd1⟩ := (HE.out.below hb).at_ (k := k) (by omega)
      have hA3 := hA1.symm.trans hA2
      simp only [Option.some.injEq, Addr.mk.injEq, and_true] at hA3
      obtain ⟨rfl, rfl⟩ := hA3
      subst hA1
      have hi0 : (0 : Int) ≤ (k : Int) + 1 := by omega
      have hi1 : (k : Int) + 1 < (es.length : Int) := by omega
      have hi2 : (0 : Int) ≤ (k : Int) := by omega
      have hi3 : (k : Int) < (es.length : Int) := by omega
      have hs : (k : Int) + 1 - 1 = (k : Int) := by omega
      have hw : IntKind.i64.wrap ((k : Int) + 1 - 1) = (k : Int) := by rw [IntKind.wrap_i64]; omega
      have hw2 : IntKind.i64.wrap (k : Int) = (k : Int) := by rw [IntKind.wrap_i64]; omega
      have hq : ((k : Int) + 1).toNat = k + 1 := by omega
      have HP := Lib.hid (pairBad_eq hf he)
      have HC := Lib.hid (cmpE_lt e f)
      clear hA2 he hf hz hz0
      have l0 := hb.size
      go_wp2_with fail
      go_region_held3 (fun w' => w'.cell? ⟨b1, o1 + (k + 1) * 2, none⟩ = some (.int .i64 e.1) ∧ w'.cell? ⟨b1, o1 + (k + 1) * 2 + 1, none⟩ = some (.int .i64 e.2) ∧ w'.cell? ⟨b1, o1 + k * 2, none⟩ = some (.int .i64 f.1) ∧ w'.cell? ⟨b1, o1 + k * 2 + 1, none⟩ = some (.int .i64 f.2) ∧ Below w.heap.size w w')
        (first
          | exact ⟨hc0, hc1, hd0, hd1, hb.drew⟩
          | assumption
          | exact keep4 (by assumption) hb6 hb1 hb1 hb1 hb1)
        (first
          | (go_at_call 113; refine (compareEdges_any _ _ _ _ _).mono ?_; rintro e w6 ⟨rfl, hb6⟩))
      have hb7 : Below w.heap.size w w6 := And.right (And.right (And.right (And.right (by assumption))))
      by_cases hlt : cmpE (e.1, e.2) (f.1, f.2) < 0
      · have HT := HC.out
        rw [decide_eq_true hlt, ← HP.out] at HT
        have HF := Lib.hid (ordB_false HT.symm)
        clear HT
        go_wp2
        go_ret
        exact ⟨ret_boolE HF.out.symm, hb7⟩
      · have HT := HC.out
        rw [decide_eq_false hlt, ← HP.out] at HT
        have HF := Lib.hid HT.symm
        clear HT
        go_wp2
        exact ⟨⟨k, by omega, by omega, by go_num, fun j h1 h2 => by
          rcases Nat.lt_or_ge k j with g | g
          · exact HG.out j (by omega) h2
          · have : j = k := by omega
            rw [this]; exact HF.out, hb7⟩, by simp [intOf]⟩
    · have HF := Lib.hid (ordB_true (es := es) fun i hi => HG.out i (by omega) hi)
      go_wp2
      go_ret
      exact ⟨ret_boolE HF.out.symm, hb⟩
end Go.Proofs.Ytdpojcgeblbfeaa

/- Which vertices are reached: the plain math, and the specification's queue. -/
namespace Go.Proofs.Ytdpojcgeblbfeaa
open Go.RowKit

def Touch (es : List (Int × Int)) (a b : Int) : Prop := (a, b) ∈ es ∨ (b, a) ∈ es
theorem Touch.symm {es : List (Int × Int)} {a b : Int} (h : Touch es a b) : Touch es b a := Or.symm h
inductive Near (es : List (Int × Int)) (v : Int) : Nat → Int → Prop
  | start : Near es v 0 v
  | stay {k : Nat} {u : Int} : Near es v k u → Near es v (k + 1) u
  | step {k : Nat} {a b : Int} : Near es v k a → Touch es a b → Near es v (k + 1) b
theorem Near.up {es : List (Int × Int)} {v u : Int} {k m : Nat} (h : Near es v k u) (hm : k ≤ m) : Near es v m u := by
  induction m with
  | zero => have : k = 0 := by omega
            subst this; exact h
  | succ m ih =>
    rcases Nat.lt_or_ge m k with g | g
    · have : k = m + 1 := by omega
      subst this; exact h
    · exact .stay (ih g)
def Conn (N : Int) (es : List (Int × Int)) : Prop := ∀ u, 0 ≤ u → u < N → ∃ k, Near es 0 k u
open Classical in
noncomputable def connB (N : Int) (es : List (Int × Int)) : Bool := decide (Conn N es)
theorem connB_t {N : Int} {es : List (Int × Int)} (h : Conn N es) : connB N es = true := by simp [connB, h]
theorem connB_f {N : Int} {es : List (Int × Int)} (h : ¬ Conn N es) : connB N es = false := by simp [connB, h]
theorem all_edge {N : Int} {es : List (Int × Int)} (h : edgesB N es = true) {e : Int × Int} (he : e ∈ es) : 0 ≤ e.1 ∧ e.1 < e.2 ∧ e.2 < N := by
  simp only [edgesB, Bool.and_eq_true, List.all_eq_true] at h
  have := h.2 e he
  simp only [edgeOk, Bool.and_eq_true, decide_eq_true_eq] at this
  exact ⟨this.1.1, this.1.2, this.2⟩
theorem edgesB_lims {N : Int} {es : List (Int × Int)} (h : edgesB N es = true) : 1 ≤ N ∧ N ≤ 6 ∧ es.length ≤ 12 := by
  simp only [edgesB, Bool.and_eq_true, decide_eq_true_eq] at h
  exact ⟨h.1.1.1, h.1.1.2, h.1.2⟩
theorem touch_in {N : Int} {es : List (Int × Int)} (h : edgesB N es = true) {a b : Int} (ht : Touch es a b) : 0 ≤ b ∧ b < N := by
  rcases ht with g | g
  · have := all_edge h g; simp only at this; omega
  · have := all_edge h g; simp only at this; omega

theorem nodup_len : ∀ (l m : List Int), l.Nodup → (∀ x ∈ l, x ∈ m) → l.length ≤ m.length
  | [], m, _, _ => Nat.zero_le _
  | a :: l, m, hd, hs => by
    rw [List.nodup_cons] at hd
    have ha : a ∈ m := hs a (by simp)
    have h1 := nodup_len l (m.erase a) hd.2 fun x hx => (List.mem_erase_of_ne (by rintro rfl; exact hd.1 hx)).2 (hs x (by simp [hx]))
    have h2 := List.length_erase_of_mem ha
    have h3 := List.length_pos_of_mem ha
    rw [List.length_cons]
    omega
theorem nodup_full (l m : List Int) (hd : l.Nodup) (hs : ∀ x ∈ l, x ∈ m) (hl : m.length ≤ l.length) : ∀ x ∈ m, x ∈ l := by
  intro x hx
  apply Classical.byContradiction
  intro hn
  have h1 := nodup_len l (m.erase x) hd fun y hy => (List.mem_erase_of_ne (by rintro rfl; exact hn hy)).2 (hs y hy)
  have h2 := List.length_erase_of_mem hx
  have h3 := List.length_pos_of_mem hx
  omega
def upTo (n : Nat) : List Int := (List.range n).map Int.ofNat
theorem mem_upTo {n : Nat} {x : Int} : x ∈ upTo n ↔ 0 ≤ x ∧ x < n := by
  simp only [upTo, List.mem_map, List.mem_range]
  constructor
  · rintro ⟨i, h, rfl⟩
    simp only [Int.ofNat_eq_natCast]
    omega
  · rintro ⟨h1, h2⟩; exact ⟨x.toNat, by omega, by simp only [Int.ofNat_eq_natCast]; omega⟩
theorem len_upTo (n : Nat) : (upTo n).length = n := by simp [upTo]
theorem nodup_upTo (n : Nat) : (upTo n).Nodup := by
  unfold upTo
  rw [List.nodup_iff_pairwise_ne, List.pairwise_map]
  exact List.Pairwise.imp (fun {a b} h => by simp only [Int.ofNat_eq_natCast]; omega) (List.nodup_iff_pairwise_ne.1 List.nodup_range)

structure Queue (N : Int) (es : List (Int × Int)) (q : List Int) : Prop where
  zero : 0 ∈ q
  nodup : q.Nodup
  bound : ∀ x ∈ q, 0 ≤ x ∧ x < N
  near : ∀ x ∈ q, ∃ k, Near es 0 k x
theorem Queue.start {N : Int} (es : List (Int × Int)) (h : 1 ≤ N) : Queue N es [0] where
  zero := by simp
  nodup := by simp
  bound := fun x hx => by simp at hx; omega
  near := fun x hx => by simp at hx; subst hx; exact ⟨0, .start⟩
theorem Queue.push {N : Int} {es : List (Int × Int)} {q : List Int} (h : Queue N es q) {x b : Int} (hx : x ∈ q) (ht : Touch es x b) (hb : b ∉ q) (hE : edgesB N es = true) : Queue N es (q ++ [b]) where
  zero := by simp [h.zero]
  nodup := by
    rw [List.nodup_append]
    exact ⟨h.nodup, by simp, fun a ha c hc => by simp at hc; subst hc; exact fun he => hb (he ▸ ha)⟩
  bound := fun y hy => by
    rw [List.mem_append] at hy
    rcases hy with g | g
    · exact h.bound y g
    · simp at g; subst g; exact touch_in hE ht
  near := fun y hy => by
    rw [List.mem_append] at hy
    rcases hy with g | g
    · exact h.near y g
    · simp at g; subst g
      obtain ⟨k, hk⟩ := h.near x hx
      exact ⟨k + 1, .step hk ht⟩
theorem Queue.len {N : Int} {es : List (Int × Int)} {q : List Int} (h : Queue N es q) : (q.length : Int) ≤ N := by
  have := nodup_len q (upTo N.toNat) h.nodup fun x hx => mem_upTo.2 (by have := h.bound x hx; omega)
  rw [len_upTo] at this
  have := h.bound 0 h.zero
  omega
theorem Queue.full {N : Int} {es : List (Int × Int)} {q : List Int} (h : Queue N es q) (hc : ∀ x ∈ q, ∀ b, Touch es x b → b ∈ q) : decide ((q.length : Int) = N) = connB N es := by
  have hN := h.bound 0 h.zero
  have hin : ∀ k u, Near es 0 k u → u ∈ q := by
    intro k u hk
    induction hk with
    | start => exact h.zero
    | stay _ ih => exact ih
    | step _ ht ih => exact hc _ ih _ ht
  by_cases he : (q.length : Int) = N
  · rw [decide_eq_true he, connB_t]
    intro u h0 h1
    refine h.near u (nodup_full q (upTo N.toNat) h.nodup (fun x hx => mem_upTo.2 (by have := h.bound x hx; omega)) (by rw [len_upTo]; omega) u (mem_upTo.2 (by omega)))
  · rw [decide_eq_false he, connB_f]
    intro hcn
    have := nodup_len (upTo N.toNat) q (nodup_upTo _) fun x hx => by
      obtain ⟨k, hk⟩ := hcn x (by have := mem_upTo.1 hx; omega) (by have := mem_upTo.1 hx; omega)
      exact hin k x hk
    rw [len_upTo] at this
    have := h.len
    omega

theorem has_miss {xs : List Int} {n : Int} (h : ∀ (j : Nat) (x : Int), xs[j]? = some x → x ≠ n) : xs.contains n = false := by
  rw [List.contains_eq_any_beq, List.any_eq_false]
  intro x hx
  obtain ⟨j, hj⟩ := List.getElem?_of_mem hx
  have := h j x hj
  simp
  exact fun g => this g.symm
set_option maxHeartbeats 400000 in
theorem l02Has_any (A : Option Addr) (c : Nat) (xs : List Int) (n : Int) (w : World) (hn : xs.length ≤ 1048576) (hS : IntS w w.heap.size A xs) :
    Calls Try.prog 139 #[.slice A xs.length c, .int .i64 n] w fun e w' => e = .returned (.bool (xs.contains n)) ∧ w' = w := by
  have HS := Lib.hid hS
  clear hS
  go_enter Try.func139, Try.ntmps139
  go_wp2
  go_loopw [9] (fun i wr => ∃ k : Nat, k ≤ xs.length ∧ i = .int .i64 k ∧ (∀ (j : Nat) (x : Int), j < k → xs[j]? = some x → x ≠ n) ∧ wr = w) (fun i _ => xs.length - (intOf i).toNat)
  case atStart => exact ⟨0, Nat.zero_le _, rfl, fun j x h => absurd h (by omega), rfl⟩
  case round =>
    obtain ⟨k, hk, rfl, hmiss, rfl⟩ := hrel
    have HM := Lib.hid hmiss
    clear hmiss
    by_cases hlt : k < xs.length
    · obtain ⟨b1, o1, x, rfl, hb1, he, hc0⟩ := HS.out.at_ hlt
      have HX := Lib.hid he
      have hi0 : (0 : Int) ≤ (k : Int) := Int.natCast_nonneg _
      have hi1 : (k : Int) < (xs.length : Int) := by omega
      clear he
      by_cases h : x = n
      · have HR : Hid (xs.contains n = true) := Lib.hid (by rw [List.contains_iff_mem]; exact h ▸ List.mem_of_getElem? HX.out)
        subst h
        go_wp2
        go_ret
        exact ⟨ret_boolE HR.out.symm, by trivial⟩
      · have H2 := Lib.hid h
        have h3 : (x == n) = false := by simp [h]
        clear h
        go_wp2
        exact ⟨⟨k + 1, by omega, by go_num, fun j y hj hy => by
          rcases Nat.lt_or_ge j k with g | g
          · exact HM.out j y g hy
          · have : j = k := by omega
            subst this
            rw [HX.out] at hy
            injection hy with hy
            subst hy; exact H2.out, by trivial⟩, by simp [intOf]; omega⟩
    · have HR := Lib.hid (has_miss (xs := xs) (n := n) fun j x hx => HM.out j x (by have := (List.getElem?_eq_some_iff.1 hx).1; omega) hx)
      go_wp2
      go_ret
      exact ⟨ret_boolE HR.out.symm, by trivial⟩
end Go.Proofs.Ytdpojcgeblbfeaa

/- The specification's l02Reach. -/
namespace Go.Proofs.Ytdpojcgeblbfeaa
open Go.RowKit

def Seen (es : List (Int × Int)) (q : List Int) (x : Int) (k : Nat) : Prop := ∀ (i : Nat) (e : Int × Int), i < k → es[i]? = some e → (e.1 = x → e.2 ∈ q) ∧ (e.2 = x → e.1 ∈ q)
def Done (es : List (Int × Int)) (q : List Int) (at_ : Nat) : Prop := ∀ (j : Nat) (x : Int), j < at_ → q[j]? = some x → ∀ b, Touch es x b → b ∈ q
theorem Seen.next {es : List (Int × Int)} {q : List Int} {x : Int} {k : Nat} {e : Int × Int} (h : Seen es q x k) (he : es[k]? = some e) (h1 : e.1 = x → e.2 ∈ q) (h2 : e.2 = x → e.1 ∈ q) : Seen es q x (k + 1) := fun i f hi hf => by
  rcases Nat.lt_or_ge i k with g | g
  · exact h i f g hf
  · have : i = k := by omega
    subst this
    rw [he] at hf
    injection hf with hf
    subst hf
    exact ⟨h1, h2⟩
theorem Seen.more {es : List (Int × Int)} {q : List Int} {x y : Int} {k : Nat} (h : Seen es q x k) : Seen es (q ++ [y]) x k := fun i f hi hf => ⟨fun g => by simp [(h i f hi hf).1 g], fun g => by simp [(h i f hi hf).2 g]⟩
theorem Done.more {es : List (Int × Int)} {q : List Int} {y : Int} {k : Nat} (h : Done es q k) (hk : k ≤ q.length) : Done es (q ++ [y]) k := fun j x hj hx b hb => by
  rw [List.getElem?_append_left (by omega)] at hx
  simp [h j x hj hx b hb]
theorem Done.next {es : List (Int × Int)} {q : List Int} {k : Nat} {x : Int} (h : Done es q k) (hx : q[k]? = some x) (hs : Seen es q x es.length) : Done es q (k + 1) := fun j y hj hy b hb => by
  rcases Nat.lt_or_ge j k with g | g
  · exact h j y g hy b hb
  · have : j = k := by omega
    subst this
    rw [hx] at hy
    injection hy with hy
    subst hy
    rcases hb with g | g
    · obtain ⟨i, hi⟩ := List.getElem?_of_mem g
      exact (hs i _ (List.getElem?_eq_some_iff.1 hi).1 hi).1 rfl
    · obtain ⟨i, hi⟩ := List.getElem?_of_mem g
      exact (hs i _ (List.getElem?_eq_some_iff.1 hi).1 hi).2 rfl
theorem Done.all {es : List (Int × Int)} {q : List Int} (h : Done es q q.length) : ∀ x ∈ q, ∀ b, Touch es x b → b ∈ q := fun x hx => by
  obtain ⟨j, hj⟩ := List.getElem?_of_mem hx
  exact h j x (List.getElem?_eq_some_iff.1 hj).1 hj
theorem own_slice {w : World} {base n : Nat} {v : Value} {zs : List Int} (h : w.ownsRow base 3 1 v n (intCells zs)) : ∃ Ar cr, v = .slice Ar zs.length cr ∧ n = zs.length := by
  have hl : zs.length = n := by simpa [intCells] using h.1
  rcases h.2 with ⟨h1, h2⟩ | ⟨g, cap, cur, h1, _⟩
  · exact ⟨none, 0, by rw [h1, hl, h2], hl.symm⟩
  · exact ⟨_, _, by rw [h1, hl], hl.symm⟩
theorem cells_snoc (q : List Int) (y : Int) : intCells q ++ [.int .i64 y] = intCells (q ++ [y]) := by simp [intCells]
def QOwn (w : World) (base : Nat) (v : Value) (q : List Int) : Prop := w.ownsRow base 3 1 v q.length (intCells q)
theorem QOwn.slice {w : World} {base : Nat} {v : Value} {q : List Int} (h : QOwn w base v q) : ∃ Ar cr, v = .slice Ar q.length cr := by
  obtain ⟨Ar, cr, h1, _⟩ := own_slice h
  exact ⟨Ar, cr, h1⟩

theorem QOwn.ints {w : World} {base : Nat} {Ar : Option Addr} {cr : Nat} {q : List Int} (h : QOwn w base (.slice Ar q.length cr) q) : IntS w w.heap.size Ar q := (OwnI.of_own h).ints
theorem IntS.drewN {w : World} {Ar : Option Addr} {q : List Int} (h : IntS w w.heap.size Ar q) (n : Nat) : IntS (w.drewN n) (w.drewN n).heap.size Ar q := h
theorem IntS.alloc {w : World} {Ar : Option Addr} {q : List Int} (h : IntS w w.heap.size Ar q) (o : Obj) : IntS (w.alloc o) (w.alloc o).heap.size Ar q := h.up_ ((Below.refl _ _).alloc (Nat.le_refl _) _)
theorem same_at {q : List Int} {k : Nat} {x y : Int} (h : q[k]? = some x) (h2 : q[k]? = some y) : y = x := by rw [h] at h2; exact (Option.some.inj h2).symm
theorem QOwn.alloc {w : World} {base : Nat} {v : Value} {q : List Int} (h : QOwn w base v q) (o : Obj) : QOwn (w.alloc o) base v q := World.ownsRow.alloc h o
theorem QOwn.drewN {w : World} {base : Nat} {v : Value} {q : List Int} (h : QOwn w base v q) (n : Nat) : QOwn (w.drewN n) base v q := h

theorem Blk.grown {w w' : World} {g : Nat} {t : TypeId} {cs : Array Value} {row : Option Nat} (h : Blk w g t cs) (hg : w.grownBy w' row) (hne : row ≠ some g) : Blk w' g t cs := (hg.block g h.lt (fun e => hne e.symm)).trans h
theorem QOwn.block {w : World} {base b o c n : Nat} {q : List Int} (h : QOwn w base (.slice (some ⟨b, o, none⟩) n c) q) : base ≤ b ∧ b < w.heap.size := World.ownsRow.lt h b rfl
theorem one_cell (W : World) (g : Nat) (hg : g = W.heap.size) (t : TypeId) (u : Value) (j : Nat) (x : Value) (h : [u][j]? = some x) : (W.alloc (.cells #[u] t)).cell? ((⟨g, 0, none⟩ : Addr).add j) = some x := by
  subst hg
  cases j with
  | zero =>
    simp only [List.getElem?_cons_zero, Option.some.injEq] at h
    subst h
    exact (Blk.new W t #[u]).cell 0
  | succ j => simp at h
theorem push_all {w1 : World} {base k m : Nat} {N x y : Int} {es : List (Int × Int)} {p : List Int} {e : Int × Int} {v' : Value} (ho : w1.ownsRow base 3 1 v' (p.length + 1) (intCells p ++ [.int .i64 y]))
    (hq : Queue N es p) (hk : k < p.length) (hx : p[k]? = some x) (hd : Done es p k) (hs : Seen es p x m) (he : es[m]? = some e) (hy : p.contains y = false) (ht : Touch es x y) (hB : edgesB N es = true)
    (h1 : e.1 = x → e.2 = y) (h2 : e.2 = x → e.1 = y) :
    ∃ p2, QOwn w1 base v' p2 ∧ Queue N es p2 ∧ k < p2.length ∧ p2[k]? = some x ∧ Done es p2 k ∧ Seen es p2 x (m + 1) := by
  refine ⟨p ++ [y], ?_, hq.push (List.mem_of_getElem? hx) ht (fun hm => ?_) hB, by simp; omega, by rw [List.getElem?_append_left hk]; exact hx, hd.more (by omega), hs.more.next he (fun g => by simp [h1 g]) (fun g => by simp [h2 g])⟩
  · unfold QOwn
    rw [← cells_snoc]
    simpa using ho
  · rw [← List.contains_iff_mem, hy] at hm
    cases hm

set_option maxRecDepth 100000 in
set_option maxHeartbeats 4000000 in
theorem l02Reach_any (N : Int) (A : Option Addr) (c : Nat) (es : List (Int × Int)) (w : World) (hB : edgesB N es = true) (hE : EdgeS w w.heap.size A es) :
    Calls Try.prog 121 #[.agg #[.int .i64 N, .slice A es.length c]] w fun e w' => ∃ (Ar : Option Addr) (cr : Nat) (q : List Int), e = .returned (.slice Ar q.length cr) ∧ decide ((q.length : Int) = N) = connB N es ∧ q.length ≤ 6 ∧ Below w.heap.size w w' := by
  obtain ⟨i0, hi, hz0, hz1, hz2⟩ := info_parts intInfo
  obtain ⟨hN1, hN6, hn12⟩ := edgesB_lims hB
  have HB := Lib.hid hB
  have HE := Lib.hid hE
  clear hE hB
  go_enter Try.func121, Try.ntmps121
  go_wp2
  go_loopw [3, 4] (fun v i wr => ∃ (k : Nat) (q : List Int), k ≤ q.length ∧ i = .int .i64 k ∧ QOwn wr (w.heap.size + 1) v q ∧ Queue N es q ∧ Done es q k ∧ Blk wr w.heap.size 25 #[.int .i64 N, .slice A es.length c] ∧ Below w.heap.size w wr) (fun _ i _ => 7 - (intOf i).toNat)
  case atStart =>
    refine ⟨0, [0], Nat.zero_le _, rfl, ?_, Queue.start es hN1, fun j x h => absurd h (by omega), (Blk.new w _ _).alloc _, ((Below.refl _ _).alloc (Nat.le_refl _) _).alloc (by simp) _⟩
    have h := World.ownsRow_lit (base := w.heap.size + 1) (e := 3) (size := 1) (w.alloc (Obj.cells #[.int .i64 N, .slice A es.length c] 25)) #[.int .i64 0] 1 (by simp) (by unfold maxLen; omega) rfl
    rw [World.size_alloc] at h
    exact h
  case round =>
    obtain ⟨k, q, hk, rfl, hown, hqu, hdone, hblk, hb⟩ := hrel
    have hqn := hqu.len
    have HO := Lib.hid hown
    have HQ := Lib.hid hqu
    have HD := Lib.hid hdone
    have HK := Lib.hid hblk
    obtain ⟨Ar, cr, rfl⟩ := hown.slice
    have hg0 : wr.cell? ⟨w.heap.size, 0, none⟩ = some (.int .i64 N) := by rw [hblk.cell]; rfl
    have hg1 : wr.cell? ⟨w.heap.size, 1, none⟩ = some (.slice A es.length c) := by rw [hblk.cell]; rfl
    clear hown hqu hdone hblk
    by_cases hlt : k < q.length
    · obtain ⟨x, hx⟩ : ∃ x, q[k]? = some x := ⟨q[k], List.getElem?_eq_getElem hlt⟩
      have HX0 := Lib.hid hx
      clear hx
      have hk6 : k < 6 := by omega
      obtain ⟨wo, rfl⟩ : ∃ wo : World, wo = wr := ⟨_, rfl⟩
      go_wp2
      go_loopw [3, 17] (fun v i wr => ∃ (m : Nat) (p : List Int), m ≤ es.length ∧ i = .int .i64 m ∧ QOwn wr (w.heap.size + 1) v p ∧ Queue N es p ∧ (k < p.length ∧ p[k]? = some x) ∧ Done es p k ∧ Seen es p x m ∧ Blk wr w.heap.size 25 #[.int .i64 N, .slice A es.length c] ∧ Below w.heap.size w wr) (fun _ i _ => es.length - (intOf i).toNat)
      case atStart => exact ⟨0, q, Nat.zero_le _, rfl, HO.out, HQ.out, ⟨hlt, HX0.out⟩, HD.out, fun i e h => absurd h (by omega), HK.out, hb⟩
      case round =>
        obtain ⟨m, p, hm, rfl, hown, hqu, ⟨hkp, hx⟩, hdone, hseen, hblk, hb2⟩ := hrel
        have hpn := hqu.len
        have HO2 := Lib.hid hown
        have HQ2 := Lib.hid hqu
        have HD2 := Lib.hid hdone
        have HS2 := Lib.hid hseen
        have HK2 := Lib.hid hblk
        have HX := Lib.hid hx
        obtain ⟨Ap, cp, rfl⟩ := hown.slice
        have hlk := hblk.lt
        clear hown hqu hdone hseen hblk hx HO HQ HD HK HX0
        by_cases hlt2 : m < es.length
        · obtain ⟨b1, o1, e, hA1, hb1, he, hc0, hc1⟩ := (HE.out.below hb2).at_ hlt2
          obtain ⟨b2, o2, x', hA2, hb2', hx', hq0⟩ := HO2.out.ints.at_ hkp
          have hxx := same_at HX.out hx'
          subst hxx
          have HI2 := Lib.hid HO2.out.ints
          subst hA1
          subst hA2
          have HEm := Lib.hid he
          have hm0 : (0 : Int) ≤ (m : Int) := Int.natCast_nonneg _
          have hm1 : (m : Int) < (es.length : Int) := by omega
          have hk0 : (0 : Int) ≤ (k : Int) := Int.natCast_nonneg _
          have hk1 : (k : Int) < (p.length : Int) := by omega
          clear he hx'
          have ho := all_edge HB.out (List.mem_of_getElem? HEm.out)
          have hblk0 := HO2.out.block
          have hwl := hb2.size
          by_cases hax : e.1 = x'
          · have t1 : (e.1 == x') = true := by simp [hax]
            have t2 : (e.2 == x') = false := by simp; omega
            have HT : Hid (Touch es x' e.2) := Lib.hid (.inl (by rw [← hax]; exact List.mem_of_getElem? HEm.out))
            have H2 : Hid (e.2 = x' → e.1 = e.2) := Lib.hid fun h => by omega
            clear hax
            by_cases hin : e.2 ∈ p
            · have HF := Lib.hid (HS2.out.next HEm.out (fun _ => hin) (fun h => by simp [h] at t2))
              go_wp2_with fail
              go_quiet (first | (go_at_call 139; refine Calls.quiet_of_same (l02Has_any _ _ _ _ _ (by omega) ((HI2.out.alloc _).drewN _))))
              go_wp2_with fail
              go_quiet (fail)
              go_wp2
              refine ⟨⟨m + 1, p, by omega, by go_num, (HO2.out.alloc _).drewN _, HQ2.out, ⟨hkp, HX.out⟩, HD2.out, HF.out, (HK2.out.alloc _).drewN _, below_drewN (hb2.alloc hb2.size _) _⟩, by simp [intOf]; omega⟩
            · have hin2 : p.contains e.2 = false := by simpa using hin
              go_wp2_with fail
              go_quiet (first | (go_at_call 139; refine Calls.quiet_of_same (l02Has_any _ _ _ _ _ (by omega) ((HI2.out.alloc _).drewN _))))
              go_wp2_with (at_builtin; refine wpList_append_own _ rfl _ _ 28 rfl (w.heap.size + 1) 3 i0 (.int .i64 0) 1 8 Try.underlying28 hi hz0 hz1 hz2 rfl (by decide) _ _ _ rfl (((HO2.out.alloc _).drewN _).alloc _) ⟨wr.heap.size + 1, 0, none⟩ 1 1 [.int .i64 e.2] rfl rfl ?c1 ?c2 ?c3 ?c4 ?c5 ?_)
              case c1 => exact one_cell _ _ (by simp) _ _
              case c2 => simp [Value.oneCell']
              case c3 => unfold maxLen; omega
              case c4 => omega
              case c5 => simp; omega
              intro v' w1 hown' hgrow _
              obtain ⟨p2, hown2, hqu2, hk2, hx2, hd2, hs2⟩ := push_all hown' HQ2.out hkp HX.out HD2.out HS2.out HEm.out hin2 HT.out HB.out (fun _ => rfl) H2.out
              have hblk3 := (((HK2.out.alloc _).drewN _).alloc _).grown hgrow (by simp only [Value.ownBlock, ne_eq, Option.some.injEq]; omega)
              have hcpy := (((Blk.new wr 121 #[.int .i64 e.1, .int .i64 e.2]).drewN _).alloc _).grown hgrow (by simp only [Value.ownBlock, ne_eq, Option.some.injEq]; omega)
              have hb3 : Below w.heap.size w w1 := ((below_drewN (hb2.alloc hb2.size _) _).alloc (by simp; omega) _).grown hgrow (by simp; omega) (fun q hq => by simp only [Value.ownBlock, Option.some.injEq] at hq; omega)
              have HOn := Lib.hid hown2
              have HQn := Lib.hid hqu2
              have HXn := Lib.hid hx2
              have HDn := Lib.hid hd2
              have HSn := Lib.hid hs2
              have HKn := Lib.hid hblk3
              obtain ⟨A3, c3, rfl⟩ := hown2.slice
              obtain ⟨b3, o3, x3, rfl, hb3', hx3, hq3⟩ := HOn.out.ints.at_ hk2
              have hxx3 := same_at HXn.out hx3
              subst hxx3
              have hk3 : (k : Int) < (p2.length : Int) := by omega
              have k1 : w1.cell? ⟨wr.heap.size, 1, none⟩ = some (.int .i64 e.2) := by rw [hcpy.cell]; rfl
              clear hown' hgrow hqu2 hx2 hd2 hs2 hblk3 hcpy hx3 hown2
              go_wp2_with fail
              go_quiet (fail)
              go_wp2
              exact ⟨⟨m + 1, p2, by omega, by go_num, HOn.out.drewN _, HQn.out, ⟨hk2, HXn.out⟩, HDn.out, HSn.out, HKn.out.drewN _, below_drewN hb3 _⟩, by simp [intOf]; omega⟩
          · have t1 : (e.1 == x') = false := by simp [hax]
            by_cases hbx : e.2 = x'
            · have t2 : (e.2 == x') = true := by simp [hbx]
              have HT : Hid (Touch es x' e.1) := Lib.hid (.inr (by rw [← hbx]; exact List.mem_of_getElem? HEm.out))
              have H1 : Hid (e.1 = x' → e.2 = e.1) := Lib.hid fun h => absurd h hax
              clear hbx
              have HAX := Lib.hid hax
              clear hax
              go_wp2_with fail
              go_quiet (fail)
              go_wp2_with fail
              have hIW := (HI2.out.alloc (Obj.cells #[.int .i64 e.1, .int .i64 e.2] 121)).drewN nq
              have hOW := (HO2.out.alloc (Obj.cells #[.int .i64 e.1, .int .i64 e.2] 121)).drewN nq
              have hKW := (HK2.out.alloc (Obj.cells #[.int .i64 e.1, .int .i64 e.2] 121)).drewN nq
              have hCW := (Blk.new wr 121 #[.int .i64 e.1, .int .i64 e.2]).drewN nq
              have hbW := below_drewN (hb2.alloc hb2.size (Obj.cells #[.int .i64 e.1, .int .i64 e.2] 121)) nq
              obtain ⟨W, hW⟩ : ∃ W : World, W = (wr.alloc (Obj.cells #[.int .i64 e.1, .int .i64 e.2] 121)).drewN nq := ⟨_, rfl⟩
              rw [← hW] at hIW hOW hKW hCW hbW ⊢
              clear hW hq0 hc0 hc1
              obtain ⟨b3, o3, x3, hA3, hb3', hx3, hq3⟩ := hIW.at_ hkp
              have hxx3 := same_at HX.out hx3
              subst hxx3
              simp only [Option.some.injEq, Addr.mk.injEq, and_true] at hA3
              obtain ⟨rfl, rfl⟩ := hA3
              have k0 : W.cell? ⟨wr.heap.size, 0, none⟩ = some (.int .i64 e.1) := by rw [hCW.cell]; rfl
              have k1 : W.cell? ⟨wr.heap.size, 1, none⟩ = some (.int .i64 e.2) := by rw [hCW.cell]; rfl
              have hblkW := hOW.block
              have hwW := hbW.size
              have HIW := Lib.hid hIW
              have HOW := Lib.hid hOW
              have HKW := Lib.hid hKW
              clear hIW hOW hKW hCW hx3
              by_cases hin : e.1 ∈ p
              · have HF := Lib.hid (HS2.out.next HEm.out (fun h => absurd h HAX.out) (fun _ => hin))
                go_quiet (first | (go_at_call 139; refine Calls.quiet_of_same (l02Has_any _ _ _ _ _ (by omega) (HIW.out.drewN _))))
                go_wp2
                exact ⟨⟨m + 1, p, by omega, by go_num, HOW.out.drewN _, HQ2.out, ⟨hkp, HX.out⟩, HD2.out, HF.out, HKW.out.drewN _, below_drewN hbW _⟩, by simp [intOf]; omega⟩
              · have hin2 : p.contains e.1 = false := by simpa using hin
                go_quiet (first | (go_at_call 139; refine Calls.quiet_of_same (l02Has_any _ _ _ _ _ (by omega) (HIW.out.drewN _))))
                go_wp2_with (at_builtin; refine wpList_append_own _ rfl _ _ 28 rfl (w.heap.size + 1) 3 i0 (.int .i64 0) 1 8 Try.underlying28 hi hz0 hz1 hz2 rfl (by decide) _ _ _ rfl ((HOW.out.drewN _).alloc _) ⟨W.heap.size, 0, none⟩ 1 1 [.int .i64 e.1] rfl rfl ?c1 ?c2 ?c3 ?c4 ?c5 ?_)
                case c1 => exact one_cell _ _ (by simp) _ _
                case c2 => simp [Value.oneCell']
                case c3 => unfold maxLen; omega
                case c4 => omega
                case c5 => simp; omega
                intro v' w1 hown' hgrow _
                obtain ⟨p2, hown2, hqu2, hk2, hx2, hd2, hs2⟩ := push_all hown' HQ2.out hkp HX.out HD2.out HS2.out HEm.out hin2 HT.out HB.out H1.out (fun _ => rfl)
                have hblk3 := ((HKW.out.drewN _).alloc _).grown hgrow (by simp only [Value.ownBlock, ne_eq, Option.some.injEq]; omega)
                have hb3 : Below w.heap.size w w1 := ((below_drewN hbW _).alloc (by simp; omega) _).grown hgrow (by simp; omega) (fun q hq => by simp only [Value.ownBlock, Option.some.injEq] at hq; omega)
                have HOn := Lib.hid hown2
                have HQn := Lib.hid hqu2
                have HXn := Lib.hid hx2
                have HDn := Lib.hid hd2
                have HSn := Lib.hid hs2
                have HKn := Lib.hid hblk3
                obtain ⟨A3, c3, rfl⟩ := hown2.slice
                clear hown' hgrow hqu2 hx2 hd2 hs2 hblk3 hown2
                go_wp2
                exact ⟨⟨m + 1, p2, by omega, by go_num, HOn.out, HQn.out, ⟨hk2, HXn.out⟩, HDn.out, HSn.out, HKn.out, hb3⟩, by simp [intOf]; omega⟩
            · have t2 : (e.2 == x') = false := by simp [hbx]
              have HF := Lib.hid (HS2.out.next HEm.out (fun h => absurd h hax) (fun h => absurd h hbx))
              clear hax hbx
              go_wp2_with fail
              go_quiet (fail)
              go_wp2_with fail
              go_quiet (fail)
              go_wp2
              refine ⟨⟨m + 1, p, by omega, by go_num, (HO2.out.alloc _).drewN _, HQ2.out, ⟨hkp, HX.out⟩, HD2.out, HF.out, (HK2.out.alloc _).drewN _, below_drewN (hb2.alloc hb2.size _) _⟩, by simp [intOf]; omega⟩
        · have HF := Lib.hid (HD2.out.next HX.out (by rw [← show m = es.length by omega]; exact HS2.out))
          go_wp2
          exact ⟨⟨k + 1, p, by omega, by go_num, HO2.out, HQ2.out, HF.out, HK2.out, hb2⟩, by simp [intOf]; omega⟩
    · have HF := Lib.hid (HQ.out.full (by have := HD.out; rw [show k = q.length by omega] at this; exact this.all))
      go_wp2
      go_ret
      exact ⟨Ar, cr, q, rfl, HF.out, by omega, hb⟩
end Go.Proofs.Ytdpojcgeblbfeaa

/- The specification's GraphOk. -/
namespace Go.Proofs.Ytdpojcgeblbfeaa
open Go.RowKit

noncomputable def graphB (N : Int) (es : List (Int × Int)) : Bool := edgesB N es && ordB es && connB N es
theorem graphB_e {N : Int} {es : List (Int × Int)} (h : edgesB N es = false) : graphB N es = false := by simp [graphB, h]
theorem graphB_o {N : Int} {es : List (Int × Int)} (h : ordB es = false) : graphB N es = false := by simp [graphB, h]
theorem graphB_c {N : Int} {es : List (Int × Int)} (h : edgesB N es = true) (h2 : ordB es = true) : graphB N es = connB N es := by simp [graphB, h, h2]

theorem keepB {w W w2 : World} {p : Addr} {a : Value} (hS : W.cell? p = some a ∧ Below w.heap.size w W) (hb : Below W.heap.size W w2) (hp : p.block < w.heap.size) : w2.cell? p = some a ∧ Below w.heap.size w w2 := by
  obtain ⟨h1, h5⟩ := hS
  have hz := h5.size
  exact ⟨(hb.cell (by omega)).trans h1, h5.trans (hb.mono hz)⟩

set_option maxRecDepth 100000 in
set_option maxHeartbeats 4000000 in
theorem specGraphOk (N : Int) (A : Option Addr) (c : Nat) (es : List (Int × Int)) (w : World) (hn : es.length ≤ 9223372036854775807) (hE : EdgeS w w.heap.size A es) :
    Calls Try.prog 67 #[.agg #[.int .i64 N, .slice A es.length c]] w fun e w' => e = .returned (.bool (graphB N es)) ∧ Below w.heap.size w w' := by
  have HE := Lib.hid hE
  clear hE
  have hb0 : Below w.heap.size w (w.alloc (Obj.cells #[.int .i64 N, .slice A es.length c] 25)) := (Below.refl _ _).alloc (Nat.le_refl _) _
  cases hB : edgesB N es with
  | false =>
    have HF := Lib.hid (graphB_e hB)
    go_enter Try.func67, Try.ntmps67
    go_wp2_with fail
    refine (specEdgesOk _ _ _ _ _ hn (HE.out.up_ hb0)).mono ?_
    rintro e w1 ⟨rfl, hb1⟩
    have hbb : Below w.heap.size w w1 := hb0.trans (hb1.mono hb0.size)
    clear hb0 hb1
    go_wp2
    go_ret
    exact ⟨ret_boolE HF.out.symm, hbb⟩
  | true =>
    obtain ⟨hN1, hN6, hn12⟩ := edgesB_lims hB
    have HB := Lib.hid hB
    go_enter Try.func67, Try.ntmps67
    go_wp2_with fail
    refine (specEdgesOk _ _ _ _ _ hn (HE.out.up_ hb0)).mono ?_
    rintro e w1 ⟨rfl, hb1⟩
    have hbb : Below w.heap.size w w1 := hb0.trans (hb1.mono hb0.size)
    have hblk := (Blk.new w 25 #[.int .i64 N, .slice A es.length c]).below hb1 (by simp)
    have hg1 : w1.cell? ⟨w.heap.size, 1, none⟩ = some (.slice A es.length c) := by rw [hblk.cell]; rfl
    have HK := Lib.hid hblk
    clear hb0 hb1 hblk
    go_wp2
    go_loopw [11] (fun i wr => ∃ z : Int, 0 ≤ z ∧ z ≤ es.length ∧ i = .int .i64 z ∧ (∀ j : Nat, (j : Int) + 1 < z → pairBad es j = false) ∧ Blk wr w.heap.size 25 #[.int .i64 N, .slice A es.length c] ∧ Below w.heap.size w wr) (fun i _ => es.length - (intOf i).toNat)
    case atStart => exact ⟨0, by omega, by omega, rfl, fun j h => absurd h (by omega), HK.out, hbb⟩
    case round =>
      obtain ⟨z, hz0, hz1, rfl, hgood, hblk, hb⟩ := hrel
      have HG := Lib.hid hgood
      have HK2 := Lib.hid hblk
      have hlk := hblk.lt
      have hg0 : wr.cell? ⟨w.heap.size, 0, none⟩ = some (.int .i64 N) := by rw [hblk.cell]; rfl
      have hg2 : wr.cell? ⟨w.heap.size, 1, none⟩ = some (.slice A es.length c) := by rw [hblk.cell]; rfl
      clear hgood hblk
      by_cases hlt : z < es.length
      · by_cases hz : 0 < z
        · obtain ⟨k, rfl⟩ : ∃ k : Nat, z = (k : Int) + 1 := ⟨(z - 1).toNat, by omega⟩
          obtain ⟨b1, o1, e, hA1, hb1, he, hc0, hc1⟩ := (HE.out.below hb).at_ (k := k + 1) (by omega)
          obtain ⟨b2, o2, f, hA2, hb2, hf, hd0, hd1⟩ := (HE.out.below hb).at_ (k := k) (by omega)
          have hA3 := hA1.symm.trans hA2
          simp only [Option.some.injEq, Addr.mk.injEq, and_true] at hA3
          obtain ⟨rfl, rfl⟩ := hA3
          subst hA1
          have hi0 : (0 : Int) ≤ (k : Int) + 1 := by omega
          have hi1 : (k : Int) + 1 < (es.length : Int) := by omega
          have hi2 : (0 : Int) ≤ (k : Int) := by omega
          have hi3 : (k : Int) < (es.length : Int) := by omega
          have hw : IntKind.i64.wrap ((k : Int) + 1 - 1) = (k : Int) := by rw [IntKind.wrap_i64]; omega
          have hw2 : IntKind.i64.wrap (k : Int) = (k : Int) := by rw [IntKind.wrap_i64]; omega
          have hq : ((k : Int) + 1).toNat = k + 1 := by omega
          have HP := Lib.hid (pairBad_eq hf he)
          have hbl : b1 < wr.heap.size := by omega
          clear hA2 he hf hz0
          by_cases h1 : e.1 < f.1
          · have HF := Lib.hid (graphB_o (N := N) (ordB_false (HP.out.trans (by simp [ltE, h1]))))
            go_wp2_with fail
            go_quiet (fail)
            go_wp2
            go_ret
            exact ⟨ret_boolE HF.out.symm, below_drewN (hb.alloc hb.size _) _⟩
          · have d1 : decide (e.1 < f.1) = false := decide_eq_false h1
            by_cases h2 : e.1 = f.1
            · have d2 : (e.1 == f.1) = true := by simp [h2]
              by_cases h3 : e.2 < f.2
              · have HF := Lib.hid (graphB_o (N := N) (ordB_false (HP.out.trans (by simp [ltE, h2, h3]))))
                clear h2
                go_wp2_with fail
                go_quiet (fail)
                go_wp2
                go_ret
                exact ⟨ret_boolE HF.out.symm, below_drewN (hb.alloc hb.size _) _⟩
              · have HF := Lib.hid (HP.out.trans (show ltE e f = false by simp [ltE, h1, h3]))
                have d3 : decide (e.2 < f.2) = false := decide_eq_false h3
                clear h2
                go_wp2_with fail
                go_quiet (fail)
                go_wp2
                exact ⟨⟨(k : Int) + 1 + 1, by omega, by omega, by go_num, fun j hj => by
                  rcases Nat.lt_or_ge j k with g | g
                  · exact HG.out j (by omega)
                  · have : j = k := by omega
                    rw [this]; exact HF.out, (HK2.out.alloc _).drewN _, below_drewN (hb.alloc hb.size _) _⟩, by simp [intOf]; omega⟩
            · have HF := Lib.hid (HP.out.trans (show ltE e f = false by simp [ltE, h1, h2]))
              have d2 : (e.1 == f.1) = false := by simp [h2]
              clear h2
              go_wp2_with fail
              go_quiet (fail)
              go_wp2
              exact ⟨⟨(k : Int) + 1 + 1, by omega, by omega, by go_num, fun j hj => by
                rcases Nat.lt_or_ge j k with g | g
                · exact HG.out j (by omega)
                · have : j = k := by omega
                  rw [this]; exact HF.out, (HK2.out.alloc _).drewN _, below_drewN (hb.alloc hb.size _) _⟩, by simp [intOf]; omega⟩
        · have hz2 : z = 0 := by omega
          subst hz2
          obtain ⟨b1, o1, e, rfl, hb1, he, hc0, hc1⟩ := (HE.out.below hb).at_ (k := 0) (by omega)
          rw [Nat.zero_mul, Nat.add_zero] at hc0 hc1
          have hbl : b1 < wr.heap.size := by omega
          have hi1 : (0 : Int) < (es.length : Int) := hlt
          clear he hz
          go_wp2_with fail
          go_quiet (fail)
          go_wp2
          exact ⟨⟨1, by omega, by omega, by go_num, fun j hj => absurd hj (by omega), (HK2.out.alloc _).drewN _, below_drewN (hb.alloc hb.size _) _⟩, by simp [intOf]; omega⟩
      · have HO := Lib.hid (graphB_c (HB.out) (ordB_true (es := es) fun i hi => HG.out i (by omega)))
        go_wp2_with fail
        go_region_held3 (fun w' => w'.cell? ⟨w.heap.size, 0, none⟩ = some (.int .i64 N) ∧ w'.cell? ⟨w.heap.size, 1, none⟩ = some (.slice A es.length c) ∧ w'.cell? ⟨w.heap.size, 0, none⟩ = some (.int .i64 N) ∧ w'.cell? ⟨w.heap.size, 1, none⟩ = some (.slice A es.length c) ∧ Below wr.heap.size wr w')
          (first
            | exact ⟨hg0, hg2, hg0, hg2, (Below.refl _ _).drew⟩
            | assumption
            | exact keep4 (by assumption) hb6 hlk hlk hlk hlk)
          (first
            | (go_at_call 121; refine (l02Reach_any _ _ _ _ _ HB.out (HE.out.up_ hb.drew)).mono ?_; rintro e w6 ⟨Ar, cr, q, rfl, hq1, hq2, hb6⟩))
        have hb7 : Below w.heap.size w w6 := hb.trans ((Below.drew (Below.refl _ _)).trans hb6 |>.mono hb.size)
        have HF := Lib.hid (hq1.trans HO.out.symm)
        clear hq1
        go_wp2
        go_ret
        exact ⟨ret_boolE HF.out, hb7⟩
end Go.Proofs.Ytdpojcgeblbfeaa

/- What a valid graph keeps. -/
namespace Go.Proofs.Ytdpojcgeblbfeaa
open Go.RowKit

theorem graphB_all {N : Int} {es : List (Int × Int)} (h : graphB N es = true) : edgesB N es = true ∧ Conn N es := by
  simp only [graphB, Bool.and_eq_true] at h
  refine ⟨h.1.1, ?_⟩
  have := h.2
  unfold connB at this
  simpa using this
end Go.Proofs.Ytdpojcgeblbfeaa
