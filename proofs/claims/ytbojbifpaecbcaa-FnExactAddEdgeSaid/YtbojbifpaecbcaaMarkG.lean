/- A graph of the call's own marked: what has changed is the one block of its edges and what is new; reading facts along 'Moves'. -/
import Derived.Test.YtbojbifpaecbcaaBA
namespace Go.Proofs.Ytbojbifpaecbcaa
open Go.RowKit

set_option maxHeartbeats 400000 in
theorem markGraphT_any (N k : Int) (A : Option Addr) (c base : Nat) (es : List (Int × Int)) (w : World) (hn : es.length ≤ 1048576) (h0 : 0 ≤ k) (h1 : k ≤ 1099511627776) (hO : OwnE w base A es) :
    Calls Try.prog 40 #[.agg #[.int .i64 N, .slice A es.length c], .int .i64 k] w fun e w' => e = .returned (.int .i64 (k + 2 * es.length)) ∧ OwnE w' base A (iotaE k es.length) ∧ ∃ w1, Below w.heap.size w w1 ∧ Turned w1 w' A := by
  have HO := Lib.hid hO
  clear hO
  have hb0 : Below w.heap.size w (w.alloc (Obj.cells #[.int .i64 N, .slice A es.length c] 25)) := (Below.refl _ _).alloc (Nat.le_refl _) _
  go_enter Try.func40, Try.ntmps40
  go_wp2_with fail
  refine (markEdgeS_any _ _ base es k _ hn h0 h1 (HO.out.below hb0)).mono ?_
  rintro e w1 ⟨rfl, ho, ht, -⟩
  go_wp2
  go_ret
  exact ⟨rfl, ho, _, hb0, ht⟩
/-- in one step of 'Moves': the edges lie in the range [lo, hi) -/
theorem turnedMoves {w w1 w' : World} {A : Option Addr} {lo hi : Nat} (hb : Below w.heap.size w w1) (ht : Turned w1 w' A) (hA : ∀ g off, A = some ⟨g, off, none⟩ → lo ≤ g ∧ g < hi) : Moves lo hi w w' :=
  ⟨ht.os.trans hb.os, ht.tape.trans hb.tape, ht.output.trans hb.output, by rw [ht.size]; exact hb.size, fun i hi2 ho => by
    rw [ht.block i (Nat.lt_of_lt_of_le hi2 hb.size) (fun off e => by
      have := hA i off e
      omega)]
    exact hb.block i hi2⟩
theorem EdgeS.moves {w w' : World} {B lo hi : Nat} {A : Option Addr} {es : List (Int × Int)} (h : EdgeS w B A es) (m : Moves lo hi w w') (h1 : B ≤ lo) (h2 : B ≤ w.heap.size) : EdgeS w' B A es :=
  h.keep (fun p hp => World.cell?_of_block (m.block p.block (by omega) (.inl (by omega)))) (Nat.le_refl _)
end Go.Proofs.Ytbojbifpaecbcaa
