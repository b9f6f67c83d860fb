/- The order of edges: the program's compareEdges, and whether a slice of edges is in order. -/
import Derived.Test.YtkmbdclhjdbhpabToEdge
import Derived.Test.YtkmbdclhjdbhpabShCmp
namespace Go.Proofs.Ytkmbdclhjdbhpab
open Go.RowKit

theorem compareInt_zero (x : Int) : Lib.compareInt x x = 0 := by simp [Lib.compareInt]
/-- the first of two numbers, or the second where the first is 0 -/
def orE (p q : Int) : Int := if p ≠ 0 then p else q
theorem orE_pos {p q : Int} (h : ¬ p = 0) : orE p q = p := by rw [orE, if_pos h]
theorem orE_neg {p q : Int} (h : p = 0) : orE p q = q := by rw [orE, h]; rfl
/-- one edge before, like or behind another -/
def cmpE (a b : Int × Int) : Int := orE (Lib.compareInt a.1 b.1) (Lib.compareInt a.2 b.2)

set_option maxHeartbeats 400000 in
theorem or2_any (b c : Nat) (p q : Int) (w : World) (h0 : w.cell? ⟨b, 0, none⟩ = some (.int .i64 p)) (h1 : w.cell? ⟨b, 1, none⟩ = some (.int .i64 q)) :
    Calls Try.prog 102 #[.slice (some ⟨b, 0, none⟩) 2 c] w fun e w' => e = .returned (.int .i64 (orE p q)) ∧ w = w' := by
  have H0 := Lib.hid h0
  have H1 := Lib.hid h1
  clear h0 h1
  go_enter Try.func102, Try.ntmps102
  go_wp2
  go_loopw [8] (fun i wr => ∃ k : Nat, k ≤ 2 ∧ i = .int .i64 k ∧ (1 ≤ k → p = 0) ∧ (2 ≤ k → q = 0) ∧ w = wr) (fun i _ => 2 - (intOf i).toNat)
  case atStart => exact ⟨0, by omega, rfl, by omega, by omega, rfl⟩
  case round =>
    obtain ⟨k, hk, rfl, hp, hq, rfl⟩ := hrel
    by_cases hk0 : k = 0
    · subst hk0
      have c0 := H0.out
      by_cases hz : p = 0
      · have hb : (p != 0) = false := by simp [hz]
        have HZ := Lib.hid hz
        clear hz hp hq
        go_wp2
        exact ⟨⟨1, by omega, by go_num, fun _ => HZ.out, by omega, by trivial⟩, by simp [intOf]⟩
      · have hb : (p != 0) = true := by simp [hz]
        have HZ := Lib.hid (orE_pos (q := q) hz)
        clear hz hp hq
        go_wp2
        go_ret
        exact ⟨ret_intE HZ.out.symm, by trivial⟩
    by_cases hk1 : k = 1
    · subst hk1
      have c1 := H1.out
      have HP := Lib.hid (hp (by omega))
      have HR := Lib.hid (orE_neg (q := q) HP.out)
      by_cases hz : q = 0
      · have hb : (q != 0) = false := by simp [hz]
        have HZ := Lib.hid hz
        clear hz hp hq
        go_wp2
        exact ⟨⟨2, by omega, by go_num, fun _ => HP.out, fun _ => HZ.out, by trivial⟩, by simp [intOf]⟩
      · have hb : (q != 0) = true := by simp [hz]
        clear hz hp hq
        go_wp2
        go_ret
        exact ⟨ret_intE HR.out.symm, by trivial⟩
    · have hk2 : k = 2 := by omega
      subst hk2
      have HP := Lib.hid (hp (by omega))
      have HQ := Lib.hid (hq (by omega))
      have HR := Lib.hid ((orE_neg (q := q) HP.out).trans HQ.out)
      clear hp hq
      go_wp2
      go_ret
      exact ⟨ret_intE HR.out.symm, by trivial⟩

theorem cell_new0 (w : World) (t : TypeId) (u v : Value) : (w.alloc (.cells #[u, v] t)).drew.cell? ⟨w.heap.size, 0, none⟩ = some u := by rw [(Blk.new w t #[u, v]).drew.cell]; rfl
theorem cell_new1 (w : World) (t : TypeId) (u v : Value) : (w.alloc (.cells #[u, v] t)).drew.cell? ⟨w.heap.size, 1, none⟩ = some v := by rw [(Blk.new w t #[u, v]).drew.cell]; rfl
theorem keep4a {w W : World} {p q r s : Addr} {a b c d : Value} (hS : W.cell? p = some a ∧ W.cell? q = some b ∧ W.cell? r = some c ∧ W.cell? s = some d ∧ Below w.heap.size w W) (o : Obj)
    (hp : p.block < w.heap.size) (hq : q.block < w.heap.size) (hr : r.block < w.heap.size) (hs : s.block < w.heap.size) :
    (W.alloc o).cell? p = some a ∧ (W.alloc o).cell? q = some b ∧ (W.alloc o).cell? r = some c ∧ (W.alloc o).cell? s = some d ∧ Below w.heap.size w (W.alloc o) := keep4 hS ((Below.refl _ _).alloc (Nat.le_refl _) _) hp hq hr hs

set_option maxHeartbeats 1000000 in
theorem compareEdges_any (a b c d : Int) (w : World) :
    Calls Try.prog 78 #[.agg #[.int .i64 a, .int .i64 b], .agg #[.int .i64 c, .int .i64 d]] w fun e w' => e = .returned (.int .i64 (cmpE (a, b) (c, d))) ∧ Below w.heap.size w w' := by
  go_enter Try.func78, Try.ntmps78
  go_wp2_with fail
  have hx1 := (Blk.new w 67 #[.int .i64 a, .int .i64 b]).alloc (Obj.cells #[.int .i64 c, .int .i64 d] 67)
  have hx2 := Blk.new (w.alloc (Obj.cells #[.int .i64 a, .int .i64 b] 67)) 67 #[.int .i64 c, .int .i64 d]
  have hb0 : Below w.heap.size w ((w.alloc (Obj.cells #[.int .i64 a, .int .i64 b] 67)).alloc (Obj.cells #[.int .i64 c, .int .i64 d] 67)) := ((Below.refl _ _).alloc (Nat.le_refl _) _).alloc (by simp) _
  rw [World.size_alloc] at hx2
  obtain ⟨W, hW⟩ : ∃ W : World, W = ((w.alloc (Obj.cells #[.int .i64 a, .int .i64 b] 67)).alloc (Obj.cells #[.int .i64 c, .int .i64 d] 67)) := ⟨_, rfl⟩
  rw [← hW] at hx1 hx2 hb0 ⊢
  have l1 := hx1.lt
  have l2 := hx2.lt
  have c0 : W.cell? ⟨w.heap.size, 0, none⟩ = some (.int .i64 a) := by rw [hx1.cell]; rfl
  have c1 : W.cell? ⟨w.heap.size, 1, none⟩ = some (.int .i64 b) := by rw [hx1.cell]; rfl
  have d0 : W.cell? ⟨w.heap.size + 1, 0, none⟩ = some (.int .i64 c) := by rw [hx2.cell]; rfl
  have d1 : W.cell? ⟨w.heap.size + 1, 1, none⟩ = some (.int .i64 d) := by rw [hx2.cell]; rfl
  have HB := Lib.hid hb0
  clear hx1 hx2 hb0 hW
  go_wp2_with fail
  go_region_held3 (fun w' => w'.cell? ⟨w.heap.size, 0, none⟩ = some (.int .i64 a) ∧ w'.cell? ⟨w.heap.size, 1, none⟩ = some (.int .i64 b) ∧ w'.cell? ⟨w.heap.size + 1, 0, none⟩ = some (.int .i64 c) ∧ w'.cell? ⟨w.heap.size + 1, 1, none⟩ = some (.int .i64 d) ∧ Below W.heap.size W w')
    (first
      | exact ⟨c0, c1, d0, d1, (Below.refl _ _).drew⟩
      | assumption
      | exact keep4a (by assumption) _ l1 l1 l2 l2)
    (first
      | (go_at_call 103; refine (Try.cmp_Compare_int _ _ _).mono ?_; rintro e w6 ⟨rfl, rfl⟩)
      | (go_at_call 102; refine (or2_any _ _ _ _ _ (cell_new0 _ _ _ _) (cell_new1 _ _ _ _)).mono ?_; rintro e w7 ⟨rfl, rfl⟩))
  all_goals
    go_wp2
    go_ret
    exact ⟨rfl, HB.out.trans (Below.mono (And.right (And.right (And.right (And.right (by assumption))))) HB.out.size)⟩
end Go.Proofs.Ytkmbdclhjdbhpab
