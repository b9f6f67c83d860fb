/- IsPrincipal: the program's side. -/
import Derived.Test.YtcfhkaefjhcglaaEqvI
namespace Go.Proofs.Ytcfhkaefjhcglaa
open Go.RowKit

theorem prin_eqv (N : Int) (es : List (Int × Int)) (d : List Int) : prinB N es d = eqvB N es d (List.replicate d.length 0) := by
  unfold prinB
  cases h : divB 60 N es d with
  | false => simp [eqvB, h]
  | true =>
    obtain ⟨M, rfl, _, _, _, hl, _⟩ := div_limsB h
    rw [Bool.true_and, Int.toNat_natCast, hl]
set_option maxRecDepth 100000 in
set_option maxHeartbeats 2000000 in
theorem implPrin (N : Int) (A D : Option Addr) (c cd : Nat) (es : List (Int × Int)) (d : List Int) (w : World) (hn : es.length ≤ 1048576) (hd : d.length ≤ 1048576) (hE : EdgeS w w.heap.size A es) (hS : IntS w w.heap.size D d) :
    Calls Try.prog 28 #[.agg #[.int .i64 N, .slice A es.length c], .slice D d.length cd] w fun e w' => e = .returned (.bool (prinB N es d)) ∧ Below w.heap.size w w' := by
  have HE := Lib.hid hE
  have HS := Lib.hid hS
  clear hE hS
  have G0 := GB.start w N A c es
  rw [prin_eqv]
  obtain ⟨K, hK⟩ : ∃ K, K = d.length := ⟨_, rfl⟩
  have hmk := make_ints d.length hd
  obtain ⟨b, hb⟩ : ∃ x, x = eqvB N es d (List.replicate d.length 0) := ⟨_, rfl⟩
  rw [← hb]
  have EO := fun (W : World) (h : Below (w.alloc (.cells #[.int .i64 N, .slice A es.length c] 25)).heap.size (w.alloc (.cells #[.int .i64 N, .slice A es.length c] 25)) W) => Lib.hid (show Calls Try.prog 26 #[.agg #[.int .i64 N, .slice A es.length c], .slice D d.length cd, .slice (some ⟨W.heap.size, 0, none⟩) d.length d.length] (W.alloc (.cells (intCells (List.replicate d.length 0)).toArray 3)) (fun e w' => e = .returned (.bool b) ∧ Below (W.alloc (.cells (intCells (List.replicate d.length 0)).toArray 3)).heap.size (W.alloc (.cells (intCells (List.replicate d.length 0)).toArray 3)) w') by
    have hz : Below W.heap.size W (W.alloc (.cells (intCells (List.replicate d.length 0)).toArray 3)) := (Below.refl _ _).alloc (Nat.le_refl _) _
    have ho := ((G0.next h).next hz).old
    have h9 := implEqv N A D (some ⟨W.heap.size, 0, none⟩) c cd d.length es d (List.replicate d.length 0) (W.alloc (.cells (intCells (List.replicate d.length 0)).toArray 3)) hn hd (by simpa using hd) (HE.out.up_ ho) (HS.out.up_ ho) (IntS.of_blk (Blk.new W _ _) (Blk.new W _ _).lt)
    rw [← hb, List.length_replicate] at h9
    exact h9)
  obtain ⟨W0, hW0⟩ : ∃ X : World, X = w.alloc (.cells #[.int .i64 N, .slice A es.length c] 25) := ⟨_, rfl⟩
  rw [← hW0] at G0 EO
  have HW0 := Lib.hid hW0
  have c0 := G0.c0
  have c1 := G0.c1
  have HP0 := Lib.hid (show W0.drew.cell? ⟨w.heap.size, 0, none⟩ = some (.int .i64 N) ∧ W0.drew.cell? ⟨w.heap.size, 1, none⟩ = some (.slice A es.length c) ∧ Below W0.heap.size W0 W0.drew from ⟨c0, c1, (Below.refl _ _).drew⟩)
  have HG := Lib.hid G0
  clear hW0 G0 hb hK
  go_enter Try.func28, Try.ntmps28
  go_wp2_with fail
  rw [← HW0.out]
  go_region_held3 (fun w' => w'.cell? ⟨w.heap.size, 0, none⟩ = some (.int .i64 N) ∧ w'.cell? ⟨w.heap.size, 1, none⟩ = some (.slice A es.length c) ∧ Below W0.heap.size W0 w')
    (first
      | with_reducible exact HP0.out
      | with_reducible exact keepB2 (by assumption) hb2
      | exact keepB2 (keepB2 HP0.out ((Below.refl _ _).alloc (Nat.le_refl _) _)) hb2
      | with_reducible exact keepB2 (by assumption) ((Below.refl _ _).alloc (Nat.le_refl _) _))
    (first
      | (go_at_call 26; refine (EO _ ((Below.refl _ _).drew)).out.mono ?_; rintro e w2 ⟨rfl, hb2⟩))
  have hbz : Below W0.heap.size W0 w2 := And.right (And.right (by assumption))
  go_wp2
  go_ret
  exact ⟨rfl, (HG.out.next hbz).old⟩
end Go.Proofs.Ytcfhkaefjhcglaa
