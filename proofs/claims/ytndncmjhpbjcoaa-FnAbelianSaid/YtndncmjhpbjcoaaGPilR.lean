/- sandpileOf, once more: the chips lie in a row of their own, whole and not frozen. -/
import Derived.Test.YtndncmjhpbjcoaaGPilY
import Derived.Test.YtndncmjhpbjcoaaGBI
set_option linter.all false
namespace Go.Proofs.Ytndncmjhpbjcoaa
open Go.RowKit

def Row0 (w : World) (g : Nat) : Prop := ∃ (ds : Array Value) (t : TypeId), w.heap[g]? = some (.cells ds t (0, 0))
theorem Row0.below {w w' : World} {g : Nat} (h : Row0 w g) (hb : Below w.heap.size w w') : Row0 w' g := by
  obtain ⟨ds, t, e⟩ := h
  exact ⟨ds, t, (hb.block g (Array.getElem?_eq_some_iff.1 e).1).trans e⟩
theorem row0_own {w : World} {base n : Nat} {g c : Nat} {t : TypeId} {xs : List Value} (h : w.ownsRow base t 1 (.slice (some ⟨g, 0, none⟩) n c) n xs) : Row0 w g := by
  rcases h.2 with ⟨h1, _⟩ | ⟨g2, cap, cur, h1, _, h2, _⟩
  · cases h1
  · cases h1
    exact ⟨cur, t, h2⟩
theorem cloneR_any (D : Option Addr) (cd B : Nat) (d : List Int) (w : World) (h0 : 0 < d.length) (hd : d.length ≤ 1048576) (hS : IntS w B D d) :
    Calls Try.prog 81 #[.slice D d.length cd] w fun e w' => ∃ g cg : Nat, e = .returned (.slice (some ⟨g, 0, none⟩) d.length cg) ∧ w.heap.size ≤ g ∧ Chips w' g d ∧ Row0 w' g ∧ Below w.heap.size w w' := by
  obtain ⟨b, off, rfl, hb, hc⟩ := hS h0
  refine (Try.slices_Clone_int b off d.length cd d w (Nat.le_refl _) (by omega) (fun j hj => by rw [hc j d[j] (List.getElem?_eq_getElem hj)]; simp [List.getD, List.getElem?_eq_getElem hj])).mono ?_
  rintro e w' ⟨v, rfl, hown, _, hbl⟩
  rw [List.take_length] at hown
  obtain ⟨g, cg, rfl, hg, hch⟩ := Chips.of_own (l := d) hown h0
  exact ⟨g, cg, rfl, hg, hch, row0_own hown, hbl⟩

def GivesBoardR (w : World) (A : Option Addr) (n c : Nat) (d : List Int) (e : Ending) (w' : World) : Prop :=
  ∃ p g cg : Nat, e = .returned (.pointer (some ⟨p, 0, none⟩)) ∧ Blk w' p 75 #[.slice A n c, .slice (some ⟨g, 0, none⟩) d.length cg] ∧ Chips w' g d ∧ Row0 w' g ∧ w.heap.size ≤ g ∧ g < p ∧ Below w.heap.size w w'
set_option maxHeartbeats 1000000 in
theorem boardR_any (N : Int) (A D : Option Addr) (n c cd : Nat) (d : List Int) (w : World) (h0 : 0 < d.length) (hd : d.length ≤ 1048576) (hS : IntS w w.heap.size D d) :
    Calls Try.prog 101 #[.agg #[.int .i64 N, .slice A n c], .slice D d.length cd] w (GivesBoardR w A n c d) := by
  have HS := Lib.hid hS
  clear hS
  go_enter Try.func101, Try.ntmps101
  go_wp2_with fail
  obtain ⟨W0, hW0⟩ : ∃ X : World, X = w.alloc (Obj.cells #[.int .i64 N, .slice A n c] 25) := ⟨_, rfl⟩
  rw [← hW0]
  have hb0 : Below w.heap.size w W0 := by rw [hW0]; exact (Below.refl _ _).alloc (Nat.le_refl _) _
  have c1 : W0.cell? ⟨w.heap.size, 1, none⟩ = some (.slice A n c) := by rw [hW0, (Blk.new w _ _).cell]; rfl
  have l0 : w.heap.size < W0.heap.size := by rw [hW0]; simp
  clear hW0
  go_region_held3 (fun w' => w'.cell? ⟨w.heap.size, 1, none⟩ = some (.slice A n c) ∧ Below W0.heap.size W0 w')
    (first
      | exact ⟨c1, (Below.refl _ _).drew⟩
      | exact keepB (by assumption) hb2 l0
      | exact keepB (by assumption) ((Below.refl _ _).alloc (Nat.le_refl _) _) l0)
    ((go_at_call 81; refine (cloneR_any _ _ _ _ _ h0 hd (HS.out.up_ hb0.drew)).mono ?_; rintro e w2 ⟨g, cg, rfl, hg, hc, hrw, hb2⟩))
  have hs2 := hb2.size
  have hg2 : W0.heap.size ≤ g := hg
  have hgl := hc.lt
  have hbz : Below w.heap.size w (w2.alloc (Obj.cells #[.slice A n c, .slice (some ⟨g, 0, none⟩) d.length cg] 75)) := (hb0.drew.trans (hb2.mono hb0.size)).alloc (by have := hb0.size; omega) _
  have HC := Lib.hid (hc.below ((Below.refl _ _).alloc (Nat.le_refl _) (Obj.cells #[.slice A n c, .slice (some ⟨g, 0, none⟩) d.length cg] 75)))
  have HRW := Lib.hid (hrw.below ((Below.refl _ _).alloc (Nat.le_refl _) (Obj.cells #[.slice A n c, .slice (some ⟨g, 0, none⟩) d.length cg] 75)))
  clear hc hrw hb2
  go_wp2
  go_ret
  exact ⟨w2.heap.size, g, cg, rfl, Blk.new _ _ _, HC.out, HRW.out, by have := hb0.size; omega, hgl, hbz⟩
def GivesPileR (w : World) (M q : Nat) (A : Option Addr) (n : Nat) (es : List (Int × Int)) (d : List Int) (e : Ending) (w' : World) : Prop :=
  ∃ sp pb g cg : Nat, e = .returned (.pointer (some ⟨sp, 0, none⟩)) ∧ Pile w' sp pb g M cg n q A es d ∧ Row0 w' g ∧ w.heap.size ≤ g ∧ g < pb ∧ pb < sp ∧ Below w.heap.size w w'
set_option maxRecDepth 100000 in
set_option maxHeartbeats 1000000 in
theorem pileR_any (N : Int) (A D : Option Addr) (c cd q : Nat) (es : List (Int × Int)) (d : List Int) (w : World) (h0 : 0 < d.length) (hd : d.length ≤ 1048576) (hS : IntS w w.heap.size D d) :
    Calls Try.prog 59 #[.agg #[.int .i64 N, .slice A es.length c], .slice D d.length cd, .int .i64 (q : Int)] w (GivesPileR w d.length q A c es d) := by
  have G0 := GB.start w N A c es
  have HB := Lib.hid (fun (W : World) (h : Below w.heap.size w W) => boardR_any N A D es.length c cd d W h0 hd (hS.up_ h))
  clear hS
  go_enter Try.func59, Try.ntmps59
  have c0 := G0.c0
  have c1 := G0.c1
  go_wp2_with fail
  refine (HB.out _ G0.old).mono ?_
  rintro e w1 ⟨pb, g, cg, rfl, hB, hC, hR, hg, hgp, hb1⟩
  have hb2 := Lib.hid (G0.old.trans (hb1.mono G0.old.size))
  have hsz := G0.old.size
  have hBL := Lib.hid hB
  have hCL := Lib.hid hC
  have hRL := Lib.hid hR
  have hpl := hB.lt
  clear hB hC hR c0 c1 G0 hb1
  go_wp2
  go_ret
  exact ⟨w1.heap.size, pb, g, cg, rfl, ⟨Blk.new _ _ _, (((Below.refl _ _).alloc (Nat.le_refl _) _).block pb hpl).trans hBL.out, hCL.out.below ((Below.refl _ _).alloc (Nat.le_refl _) _)⟩, hRL.out.below ((Below.refl _ _).alloc (Nat.le_refl _) _), by omega, hgp, hpl, hb2.out.alloc hb2.out.size _⟩
end Go.Proofs.Ytndncmjhpbjcoaa
