/- The program's boardOf: a board with a copy of the chips. -/
import Derived.Test.YtcfhkaefjhcglaaFireI
import Derived.Test.YtcfhkaefjhcglaaShClone
import Derived.Test.YtcfhkaefjhcglaaBB
namespace Go.Proofs.Ytcfhkaefjhcglaa
open Go.RowKit

theorem clone_any (D : Option Addr) (cd B : Nat) (d : List Int) (w : World) (h0 : 0 < d.length) (hd : d.length ≤ 1048576) (hS : IntS w B D d) :
    Calls Try.prog 95 #[.slice D d.length cd] w fun e w' => ∃ g cg : Nat, e = .returned (.slice (some ⟨g, 0, none⟩) d.length cg) ∧ w.heap.size ≤ g ∧ Chips w' g d ∧ Below w.heap.size w w' := by
  obtain ⟨b, off, rfl, hb, hc⟩ := hS h0
  refine (Try.slices_Clone_int b off d.length cd d w (Nat.le_refl _) (by omega) (fun j hj => by rw [hc j d[j] (List.getElem?_eq_getElem hj)]; simp [List.getD, List.getElem?_eq_getElem hj])).mono ?_
  rintro e w' ⟨v, rfl, hown, _, hbl⟩
  rw [List.take_length] at hown
  obtain ⟨g, cg, rfl, hg, hch⟩ := Chips.of_own (l := d) hown h0
  exact ⟨g, cg, rfl, hg, hch, hbl⟩

def GivesBoard (w : World) (A : Option Addr) (n c : Nat) (d : List Int) (e : Ending) (w' : World) : Prop :=
  ∃ p g cg : Nat, e = .returned (.pointer (some ⟨p, 0, none⟩)) ∧ Blk w' p 69 #[.slice A n c, .slice (some ⟨g, 0, none⟩) d.length cg] ∧ Chips w' g d ∧ w.heap.size ≤ g ∧ g < p ∧ Below w.heap.size w w'
set_option maxHeartbeats 1000000 in
theorem boardOf_any (N : Int) (A D : Option Addr) (n c cd : Nat) (d : List Int) (w : World) (h0 : 0 < d.length) (hd : d.length ≤ 1048576) (hS : IntS w w.heap.size D d) :
    Calls Try.prog 64 #[.agg #[.int .i64 N, .slice A n c], .slice D d.length cd] w (GivesBoard w A n c d) := by
  have HS := Lib.hid hS
  clear hS
  go_enter Try.func64, Try.ntmps64
  go_wp2_with fail
  obtain ⟨W0, hW0⟩ : ∃ X : World, X = w.alloc (Obj.cells #[.int .i64 N, .slice A n c] 25) := ⟨_, rfl⟩
  rw [← hW0]
  have hb0 : Below w.heap.size w W0 := by rw [hW0]; exact (Below.refl _ _).alloc (Nat.le_refl _) _
  have c1 : W0.cell? ⟨w.heap.size, 1, none⟩ = some (.slice A n c) := by rw [hW0, (Blk.new w _ _).cell]; rfl
  have l0 : w.heap.size < W0.heap.size := by rw [hW0]; simp
  clear hW0
  go_region_held3 (fun w' => w'.cell? ⟨w.heap.size, 1, none⟩ = some (.slice A n c) ∧ Below W0.heap.size W0 w')
    (first
      | exact ⟨c1, (Below.refl _ _).drew⟩
      | exact keepB (by assumption) hb2 l0
      | exact keepB (by assumption) ((Below.refl _ _).alloc (Nat.le_refl _) _) l0)
    ((go_at_call 95; refine (clone_any _ _ _ _ _ h0 hd (HS.out.up_ hb0.drew)).mono ?_; rintro e w2 ⟨g, cg, rfl, hg, hc, hb2⟩))
  have hs2 := hb2.size
  have hg2 : W0.heap.size ≤ g := hg
  have hgl := hc.lt
  have hbz : Below w.heap.size w (w2.alloc (Obj.cells #[.slice A n c, .slice (some ⟨g, 0, none⟩) d.length cg] 69)) := (hb0.drew.trans (hb2.mono hb0.size)).alloc (by have := hb0.size; omega) _
  have HC := Lib.hid (hc.below ((Below.refl _ _).alloc (Nat.le_refl _) (Obj.cells #[.slice A n c, .slice (some ⟨g, 0, none⟩) d.length cg] 69)))
  clear hc hb2
  go_wp2
  go_ret
  exact ⟨w2.heap.size, g, cg, rfl, Blk.new _ _ _, HC.out, by have := hb0.size; omega, hgl, hbz⟩
end Go.Proofs.Ytcfhkaefjhcglaa
