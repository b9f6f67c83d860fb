/- LaplacianOf, the program's side whatever the graph; its size. -/
import Derived.Test.YtkmbdclhjdbhpabLapIW
import Derived.Test.YtkmbdclhjdbhpabOwnSS
namespace Go.Proofs.Ytkmbdclhjdbhpab
open Go.RowKit

set_option maxHeartbeats 1000000 in
theorem implLap_no (N : Int) (A : Option Addr) (c : Nat) (es : List (Int × Int)) (w : World) (hn : es.length ≤ 1048576) (hB : graphB N es = false) (hE : EdgeS w w.heap.size A es) :
    Calls Try.prog 27 #[.agg #[.int .i64 N, .slice A es.length c]] w (GivesSS w []) := by
  have HE := Lib.hid hE
  clear hE
  have hb0 : Below w.heap.size w (w.alloc (Obj.cells #[.int .i64 N, .slice A es.length c] 39)) := (Below.refl _ _).alloc (Nat.le_refl _) _
  have HG := fun w h => Lib.hid (implGraphOk N A c es w hn h)
  rw [hB] at HG
  clear hB
  go_enter Try.func27, Try.ntmps27
  go_wp2_with fail
  refine (HG _ (HE.out.up_ hb0)).out.mono ?_
  rintro e w1 ⟨rfl, hb1⟩
  have hbb : Below w.heap.size w w1 := hb0.trans (hb1.mono hb0.size)
  clear hb0 hb1
  go_wp2
  go_ret
  exact ⟨none, 0, rfl, OwnSS.nil _ _ _ _, hbb⟩
theorem implLap (N : Int) (A : Option Addr) (c : Nat) (es : List (Int × Int)) (w : World) (hn : es.length ≤ 1048576) (hE : EdgeS w w.heap.size A es) :
    Calls Try.prog 27 #[.agg #[.int .i64 N, .slice A es.length c]] w (GivesSS w (lapB N es)) := by
  cases h : graphB N es with
  | false => rw [lapB_f h]; exact implLap_no N A c es w hn h hE
  | true =>
    rw [lapB_t h]
    have h1 := edgesB_lims (graphB_all h).1
    obtain ⟨M, rfl⟩ : ∃ M : Nat, N = (M : Int) := ⟨N.toNat, by omega⟩
    rw [Int.toNat_natCast]
    refine (implLap_yes M A c es w h hE).mono ?_
    rintro e w' ⟨g, rfl, hg, hr, hb⟩
    have hlm := lapM_len M es
    have hr2 : RowsTo w' g w'.heap.size (lapM M es) (lapM M es).length := by rw [hlm]; exact hr
    have hgl : g < w'.heap.size := by obtain ⟨_, _, h, _⟩ := hr; exact h.lt
    exact ⟨some ⟨g, 0, none⟩, M, by rw [hlm], (OwnSS.of_rows hr2 hgl (Nat.le_refl _)).mono hg, hb⟩
theorem lens_le (n : Nat) : ∀ rs : List (List Int), (∀ r ∈ rs, r.length ≤ n) → lens rs ≤ rs.length * n
  | [], _ => by simp [lens]
  | r :: l, h => by
    have h1 := h r (by simp)
    have h2 := lens_le n l (fun x hx => h x (by simp [hx]))
    simp only [lens, List.length_cons, Nat.add_mul, Nat.one_mul]
    omega
theorem lapB_len1 {N : Int} {es : List (Int × Int)} : (lapB N es).length ≤ 1048576 := by have := (lapB_len (N := N) (es := es)).1; omega
theorem lapB_lens {N : Int} {es : List (Int × Int)} : lens (lapB N es) ≤ 1048576 := by
  have h1 := (lapB_len (N := N) (es := es)).1
  have h2 := lens_le 6 (lapB N es) (lapB_len (N := N) (es := es)).2
  omega
end Go.Proofs.Ytkmbdclhjdbhpab
