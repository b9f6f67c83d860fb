/- What a law keeps of the graph that came in, from call to call. -/
import Derived.Test.YtbmihbbpdmpmpaaToEdge
import Derived.Test.YtbmihbbpdmpmpaaOpen
namespace Go.Proofs.Ytbmihbbpdmpmpaa
open Go.RowKit

/-- the law's box of the graph that came in, and all that lay before, as they were -/
structure LawG (w wc : World) (N : Int) (A : Option Addr) (c : Nat) (es : List (Int × Int)) : Prop where
  box : Blk wc w.heap.size 24 #[.int .i64 N, .slice A es.length c]
  old : Below w.heap.size w wc
section
variable {w wc wd : World} {N : Int} {A : Option Addr} {c : Nat} {es : List (Int × Int)}
theorem LawG.c0 (h : LawG w wc N A c es) : wc.cell? ⟨w.heap.size, 0, none⟩ = some (.int .i64 N) := by rw [h.box.cell]; rfl
theorem LawG.c1 (h : LawG w wc N A c es) : wc.cell? ⟨w.heap.size, 1, none⟩ = some (.slice A es.length c) := by rw [h.box.cell]; rfl
theorem LawG.next (h : LawG w wc N A c es) (hb : Below wc.heap.size wc wd) : LawG w wd N A c es := ⟨h.box.below hb h.box.lt, h.old.trans (hb.mono h.old.size)⟩
theorem LawG.alloc (h : LawG w wc N A c es) (o : Obj) : LawG w (wc.alloc o) N A c es := ⟨h.box.alloc o, h.old.alloc h.old.size o⟩
theorem LawG.drew (h : LawG w wc N A c es) : LawG w wc.drew N A c es := ⟨h.box.drew, h.old.drew⟩
theorem LawG.lt (h : LawG w wc N A c es) : w.heap.size < wc.heap.size := h.box.lt
theorem LawG.edges (h : LawG w wc N A c es) (hE : EdgeS w w.heap.size A es) : EdgeS wc wc.heap.size A es := hE.up_ h.old
theorem LawG.start (w : World) (N : Int) (A : Option Addr) (c : Nat) (es : List (Int × Int)) : LawG w (w.alloc (.cells #[.int .i64 N, .slice A es.length c] 24)) N A c es := ⟨Blk.new w _ _, (Below.refl _ _).alloc (Nat.le_refl _) _⟩
end
end Go.Proofs.Ytbmihbbpdmpmpaa
