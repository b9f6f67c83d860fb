/- Two lists of ints of one's own, apart: one is marked, the other stays. -/
import Derived.Test.YtndncmjhpbjcoaaKBA
set_option linter.all false
namespace Go.Proofs.Ytndncmjhpbjcoaa
open Go.RowKit

def Apart (n m : Nat) (A1 A2 : Option Addr) : Prop := 0 < n → 0 < m → ∀ g1 o1 g2 o2 : Nat, A1 = some ⟨g1, o1, none⟩ → A2 = some ⟨g2, o2, none⟩ → g1 ≠ g2
theorem Apart.symm {n m : Nat} {A1 A2 : Option Addr} (h : Apart n m A1 A2) : Apart m n A2 A1 := fun hm hn g1 o1 g2 o2 e1 e2 e => h hn hm g2 o2 g1 o1 e2 e1 e.symm
theorem markA_any (A A2 : Option Addr) (c base : Nat) (zs ys : List Int) (k : Int) (w : World) (hn : zs.length ≤ 1048576) (h0 : 0 ≤ k) (h1 : k ≤ 1099511627776) (hO : OwnI w base A zs) (hY : OwnI w base A2 ys) (ha : Apart zs.length ys.length A A2) (hb : base ≤ w.heap.size) :
    Calls Try.prog 36 #[.slice A zs.length c, .int .i64 k] w fun e w' => e = .returned (.int .i64 (k + zs.length)) ∧ OwnI w' base A (iota k zs.length) ∧ OwnI w' base A2 ys ∧ Below base w w' := by
  by_cases hz : 0 < zs.length
  · refine (markIntS_any A c base zs k w hn h0 h1 hO).mono ?_
    rintro e w' ⟨rfl, ho, ht, hbl⟩
    refine ⟨rfl, ho, fun hy => ?_, hbl hb⟩
    obtain ⟨g1, o1, e1, hg1, hl1, hc1⟩ := hO hz
    obtain ⟨g2, o2, e2, hg2, hl2, hc2⟩ := hY hy
    have hne := ha hz hy g1 o1 g2 o2 e1 e2
    have hbk := ht.block g2 hl2 fun off he => by
      rw [e1] at he
      injection he with he
      injection he with he
      exact hne he
    exact ⟨g2, o2, e2, hg2, by rw [ht.size]; exact hl2, fun i z hi => ⟨(World.cell?_of_block (a := ⟨g2, o2 + i, none⟩) hbk).trans (hc2 i z hi).1, (World.frozen?_of_block (a := ⟨g2, o2 + i, none⟩) hbk).trans (hc2 i z hi).2⟩⟩
  · have hz0 : zs = [] := List.eq_nil_of_length_eq_zero (by omega)
    subst hz0
    refine (markIntS_any A c w.heap.size [] k w hn h0 h1 (OwnI.nil _ _ _)).mono ?_
    rintro e w' ⟨rfl, ho, ht, hbl⟩
    have hB := hbl (Nat.le_refl _)
    exact ⟨rfl, OwnI.nil _ _ _, hY.below hB, hB.mono hb⟩
end Go.Proofs.Ytndncmjhpbjcoaa
