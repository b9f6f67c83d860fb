/- What a step of a law leaves as it was: all but the blocks of a range. -/
import Derived.Test.YtbmihbbpdmpmpaaMarkE
import Derived.Test.YtbmihbbpdmpmpaaLawG
import Derived.Test.YtbmihbbpdmpmpaaIntSS
namespace Go.Proofs.Ytbmihbbpdmpmpaa
open Go.RowKit

/-- blocks may come; of those that there were, only blocks from lo up to hi have changed -/
structure Moves (lo hi : Nat) (w w' : World) : Prop where
  os : w'.os = w.os
  tape : w'.tape = w.tape
  output : w'.output = w.output
  size : w.heap.size ≤ w'.heap.size
  block : ∀ i, i < w.heap.size → (i < lo ∨ hi ≤ i) → w'.heap[i]? = w.heap[i]?
section
variable {w w' wc wd : World} {lo hi B base g : Nat} {A : Option Addr}
theorem belowMv (h : Below w.heap.size w w') (n : Nat) : Moves n n w w' := ⟨h.os, h.tape, h.output, h.size, fun i hi _ => h.block i hi⟩
theorem belowMvB (h : Below B w w') : Moves B w.heap.size w w' := ⟨h.os, h.tape, h.output, h.size, fun i hi ho => h.block i (by omega)⟩
theorem Turned.mv {off : Nat} (h : Turned w w' (some ⟨g, off, none⟩)) : Moves g (g + 1) w w' := ⟨h.os, h.tape, h.output, Nat.le_of_eq h.size.symm, fun i hi ho => h.block i hi fun o e => by
  injection e with e
  injection e with e
  omega⟩
theorem grownMv (h : w.grownBy w' (some g)) : Moves g (g + 1) w w' := ⟨h.os, h.tape, h.output, h.size, fun i hi ho => h.block i hi (by simp; omega)⟩
theorem Between.mv (h : Between w w' lo hi) : Moves lo hi w w' := ⟨h.os, h.tape, h.output, Nat.le_of_eq h.size.symm, fun i hi ho => h.block i hi (by omega)⟩
theorem belowMoves (h : Below B w wc) (m : Moves lo hi wc wd) (h1 : B ≤ lo) (h2 : B ≤ wc.heap.size) : Below B w wd :=
  ⟨m.os.trans h.os, m.tape.trans h.tape, m.output.trans h.output, Nat.le_trans h.size m.size, fun i hi => (m.block i (by omega) (.inl (by omega))).trans (h.block i hi)⟩
theorem IntS.moves {zs : List Int} (h : IntS w B A zs) (m : Moves lo hi w w') (h1 : B ≤ lo) (h2 : B ≤ w.heap.size) : IntS w' B A zs :=
  h.keep (fun p hp => World.cell?_of_block (m.block p.block (by omega) (.inl (by omega)))) (Nat.le_refl _)
theorem IntSS.moves {rs : List (List Int)} (h : IntSS w B A rs) (m : Moves lo hi w w') (h1 : B ≤ lo) (h2 : B ≤ w.heap.size) : IntSS w' B A rs :=
  h.keep (fun p hp => World.cell?_of_block (m.block p.block (by omega) (.inl (by omega)))) (Nat.le_refl _)
theorem OwnI.moves {zs : List Int} (h : OwnI w base A zs) (m : Moves lo hi w w') (h1 : hi ≤ base) : OwnI w' base A zs := fun hn => by
  obtain ⟨k, off, e, h1, hk, hc⟩ := h hn
  have hbl := m.block k hk (.inr (by omega))
  exact ⟨k, off, e, h1, Nat.lt_of_lt_of_le hk m.size, fun i z hz => ⟨(World.cell?_of_block (a := ⟨k, off + i, none⟩) hbl).trans (hc i z hz).1, (World.frozen?_of_block (a := ⟨k, off + i, none⟩) hbl).trans (hc i z hz).2⟩⟩
theorem Blk.moves {t : TypeId} {cs : Array Value} (h : Blk w g t cs) (m : Moves lo hi w w') (h1 : g < lo ∨ hi ≤ g) : Blk w' g t cs := (m.block g h.lt h1).trans h
theorem IntS.wide {zs : List Int} {B' : Nat} (h : IntS w B A zs) (hB : B ≤ B') : IntS w B' A zs := h.keep (fun _ _ => rfl) hB
theorem LawG.moves {N : Int} {c : Nat} {es : List (Int × Int)} (h : LawG w wc N A c es) (m : Moves lo hi wc wd) (h1 : w.heap.size < lo) : LawG w wd N A c es :=
  ⟨h.box.moves m (.inl h1), belowMoves h.old m (by omega) h.old.size⟩
theorem OwnE.moves {es : List (Int × Int)} (h : OwnE w base A es) (m : Moves lo hi w w') (h1 : hi ≤ base) : OwnE w' base A es := fun hn => by
  obtain ⟨k, off, e, h1, hk, hc⟩ := h hn
  have hbl := m.block k hk (.inr (by omega))
  have hcl : ∀ o : Nat, w'.cell? ⟨k, o, none⟩ = w.cell? ⟨k, o, none⟩ := fun o => World.cell?_of_block (a := ⟨k, o, none⟩) hbl
  have hfr : ∀ o : Nat, w'.frozen? ⟨k, o, none⟩ = w.frozen? ⟨k, o, none⟩ := fun o => World.frozen?_of_block (a := ⟨k, o, none⟩) hbl
  exact ⟨k, off, e, h1, Nat.lt_of_lt_of_le hk m.size, fun i z hz => by rw [hcl, hcl, hfr, hfr]; exact hc i z hz⟩
end
/-- a slice of ints and a bool, the slice new memory -/
def GivesIntsOk (w : World) (zs : List Int) (b : Bool) (e : Ending) (w' : World) : Prop :=
  ∃ (A : Option Addr) (c : Nat), e = .returned (.tuple #[.slice A zs.length c, .bool b]) ∧ OwnI w' w.heap.size A zs ∧ Below w.heap.size w w'
set_option maxHeartbeats 400000 in
theorem markGraphB_any (N k : Int) (g : Nat) (es : List (Int × Int)) (w : World) (hn : es.length ≤ 1048576) (h0 : 0 ≤ k) (h1 : k ≤ 1099511627776) (hE : Blk w g 62 (flat es).toArray) :
    Calls Try.prog 17 #[.agg #[.int .i64 N, .slice (some ⟨g, 0, none⟩) es.length es.length], .int .i64 k] w fun e w' => e = .returned (.int .i64 (k + 2 * es.length)) ∧ w.grownBy w' (some g) := by
  have HE := Lib.hid hE
  have hgl := hE.lt
  clear hE
  go_enter Try.func17, Try.ntmps17
  go_wp2_with fail
  refine (markEdgeS_any _ _ g es k _ hn h0 h1 (OwnE.of_blk (HE.out.alloc _) (Nat.le_refl _))).mono ?_
  rintro e w1 ⟨rfl, _, ht, _⟩
  have hg1 : w.grownBy w1 (some g) := ⟨ht.os, ht.tape, ht.output, by rw [ht.size]; simp, fun i hi hne => by
    rw [ht.block i (by simp; omega) (fun off he => hne (by injection he with he; injection he with he; rw [he]))]
    exact Below.heap_alloc w _ i hi⟩
  go_wp2
  go_ret
  exact ⟨rfl, hg1⟩
end Go.Proofs.Ytbmihbbpdmpmpaa
