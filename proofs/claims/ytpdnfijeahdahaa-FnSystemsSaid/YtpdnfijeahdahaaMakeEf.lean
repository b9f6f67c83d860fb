/- MakeAll and MakeEffective: the rows of l06Effective. -/
import Derived.Test.YtpdnfijeahdahaaBL
import Derived.Test.YtpdnfijeahdahaaBJ
import Derived.Test.YtpdnfijeahdahaaBK
import Derived.Test.YtpdnfijeahdahaaEinS
namespace Go.Proofs.Ytpdnfijeahdahaa
open Go.RowKit

set_option maxRecDepth 100000 in
set_option maxHeartbeats 2000000 in
theorem makeAll_any (M : Nat) (k : Int) (w : World) (hM0 : 0 < M) (hM6 : M ≤ 6) (hk0 : -1000 ≤ k) (hk : k ≤ 7) :
    Calls Try.prog 45 #[.int .i64 (M : Int), .int .i64 k] w (GivesOwn w (effB M k)) := by
  have HC := fun w => Lib.hid (specEffl M k w hM6 hk0 hk)
  have HI := fun w => Lib.hid (l01In_any (M : Int) 1 6 w)
  have h1 : inB (M : Int) 1 6 = true := inB_t (by omega)
  rw [h1] at HI
  clear h1
  go_enter Try.func45, Try.ntmps45
  go_wp2_with fail
  refine (HI _).out.mono ?_
  rintro e w1 ⟨rfl, rfl⟩
  go_wp2_with fail
  refine (HC _).out.mono ?_
  rintro e w2 ⟨v, rfl, ho, hb2⟩
  have HO := Lib.hid ho
  have HB := Lib.hid hb2
  clear ho hb2
  go_wp2
  go_ret
  exact ⟨v, rfl, HO.out, HB.out⟩
set_option maxRecDepth 100000 in
set_option maxHeartbeats 2000000 in
theorem makeEff_any (M : Nat) (V : Value) (D : Option Addr) (cd : Nat) (d : List Int) (w : World) (hV : ∃ a b c, V = .slice a b c) (hM0 : 0 < M) (hM6 : M ≤ 6) (hd : d.length ≤ 1048576) (hk0 : -1000 ≤ degB d d.length) (hk : degB d d.length ≤ 7) (hS : IntS w w.heap.size D d) :
    Calls Try.prog 14 #[.agg #[.int .i64 (M : Int), V], .slice D d.length cd] w (GivesOwn w (effB M (degB d d.length))) := by
  obtain ⟨va, vb, vc, rfl⟩ := hV
  have HS := Lib.hid hS
  clear hS
  have DC := fun (W : World) (h : Below w.heap.size w W) => Lib.hid (specDeg D cd d W hd (HS.out.up_ h))
  obtain ⟨k, hkk⟩ : ∃ k, k = degB d d.length := ⟨_, rfl⟩
  rw [← hkk] at DC hk0 hk ⊢
  have AC := fun (W : World) => Lib.hid (makeAll_any M k W hM0 hM6 hk0 hk)
  obtain ⟨W0, hW0⟩ : ∃ X : World, X = w.alloc (Obj.cells #[.int .i64 (M : Int), .slice va vb vc] 25) := ⟨_, rfl⟩
  have hb0 : Below w.heap.size w W0 := by rw [hW0]; exact (Below.refl _ _).alloc (Nat.le_refl _) _
  have hx : W0.cell? ⟨w.heap.size, 0, none⟩ = some (.int .i64 (M : Int)) := by rw [hW0, (Blk.new w _ _).cell]; rfl
  have HP0 := Lib.hid (show W0.drew.cell? ⟨w.heap.size, 0, none⟩ = some (.int .i64 (M : Int)) ∧ Below W0.heap.size W0 W0.drew from ⟨hx, (Below.refl _ _).drew⟩)
  have HW0 := Lib.hid hW0
  have HB0 := Lib.hid hb0
  have DC2 := fun (W : World) (h : Below W0.heap.size W0 W) => DC W (HB0.out.trans (h.mono HB0.out.size))
  clear hW0 hb0 hkk DC
  go_enter Try.func14, Try.ntmps14
  go_wp2_with fail
  rw [← HW0.out]
  go_region_held3 (fun w' => w'.cell? ⟨w.heap.size, 0, none⟩ = some (.int .i64 (M : Int)) ∧ Below W0.heap.size W0 w')
    (first
      | with_reducible exact HP0.out
      | with_reducible exact keepD1 (by assumption) hb5
      | with_reducible exact keepD1 (by assumption) hb6)
    (first
      | (go_at_call 34; refine (DC2 _ (And.right (by assumption))).out.mono ?_; rintro e w5 ⟨rfl, hb5⟩)
      | (go_at_call 45; refine (AC _).out.mono ?_; rintro e w6 ⟨v6, rfl, hr6, hb6⟩))
  have hbz : Below W0.heap.size W0 w6 := And.right (by assumption)
  have s0 := HB0.out.size
  have s5 := hb5.size
  have sd : W0.drew.heap.size = W0.heap.size := rfl
  have HO := Lib.hid (hr6.mono (base' := w.heap.size) (by omega))
  have HB := Lib.hid (HB0.out.trans (hbz.mono s0))
  clear hr6 hbz
  go_wp2
  go_ret
  exact ⟨v6, rfl, HO.out, HB.out⟩
end Go.Proofs.Ytpdnfijeahdahaa
