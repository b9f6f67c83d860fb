/- RepresentativeOf: the program's side. -/
import Derived.Test.YtmehdngibbilaaaLBJ
namespace Go.Proofs.Ytmehdngibbilaaa
open Go.RowKit

set_option maxRecDepth 100000 in
set_option maxHeartbeats 2000000 in
theorem implRep (N : Int) (A D : Option Addr) (c cd : Nat) (es : List (Int × Int)) (d : List Int) (w : World) (hn : es.length ≤ 1048576) (hd : d.length ≤ 1048576) (hE : EdgeS w w.heap.size A es) (hS : IntS w w.heap.size D d) :
    Calls Try.prog 28 #[.agg #[.int .i64 N, .slice A es.length c], .slice D d.length cd] w (GivesIntsOk w (redR N es d 0) (burnOk N es d 0)) := by
  have HE := Lib.hid hE
  have HS := Lib.hid hS
  clear hE hS
  have G0 := GB.start w N A c es
  have HD := fun w h1 h2 => Lib.hid (implRed N A D c cd es d 0 w hn hd h1 h2)
  obtain ⟨xs, hxs⟩ : ∃ x, x = redR N es d 0 := ⟨_, rfl⟩
  obtain ⟨b, hb⟩ : ∃ x, x = burnOk N es d 0 := ⟨_, rfl⟩
  rw [← hxs, ← hb] at HD ⊢
  clear hxs hb
  go_enter Try.func28, Try.ntmps28
  go_wp2_with fail
  refine (HD _ (HE.out.up_ G0.old) (HS.out.up_ G0.old)).out.mono ?_
  rintro e w1 ⟨A1, c1, rfl, ho, hb1⟩
  have G1 := Lib.hid (G0.next hb1)
  have HR := Lib.hid (ho.mono G0.old.size)
  clear G0 hb1 ho
  go_wp2
  go_ret2
  exact ⟨A1, c1, rfl, HR.out, G1.out.old⟩
end Go.Proofs.Ytmehdngibbilaaa
