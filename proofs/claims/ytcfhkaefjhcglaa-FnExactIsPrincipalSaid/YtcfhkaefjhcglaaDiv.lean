/- DivisorOk: both sides. -/
import Derived.Test.YtcfhkaefjhcglaaDivB
namespace Go.Proofs.Ytcfhkaefjhcglaa
open Go.RowKit

set_option maxHeartbeats 1000000 in
theorem specDiv (N : Int) (A D : Option Addr) (c cd : Nat) (es : List (Int × Int)) (d : List Int) (w : World) (hn : es.length ≤ 1048576) (hd : d.length ≤ 1048576) (hE : EdgeS w w.heap.size A es) (hS : IntS w w.heap.size D d) :
    Calls Try.prog 82 #[.agg #[.int .i64 N, .slice A es.length c], .slice D d.length cd] w fun e w' => e = .returned (.bool (divB 60 N es d)) ∧ Below w.heap.size w w' := by
  have HE := Lib.hid hE
  have HS := Lib.hid hS
  clear hE hS
  have hb0 : Below w.heap.size w (w.alloc (Obj.cells #[.int .i64 N, .slice A es.length c] 25)) := (Below.refl _ _).alloc (Nat.le_refl _) _
  have HG := fun w h => Lib.hid (specGraphOk N A c es w (by omega) h)
  cases hB : graphB N es with
  | false =>
    rw [hB] at HG
    rw [divB_g hB]
    clear hB
    go_enter Try.func82, Try.ntmps82
    go_wp2_with fail
    refine (HG _ (HE.out.up_ hb0)).out.mono ?_
    rintro e w1 ⟨rfl, hb1⟩
    have hbb : Below w.heap.size w w1 := hb0.trans (hb1.mono hb0.size)
    clear hb0 hb1
    go_wp2
    go_ret
    exact ⟨rfl, hbb⟩
  | true =>
    rw [hB] at HG
    by_cases hl : (d.length : Int) = N
    · rw [divB_a hB hl]
      have t0 : ((d.length : Int) != N) = false := by simp [hl]
      clear hB hl
      go_enter Try.func82, Try.ntmps82
      go_wp2_with fail
      refine (HG _ (HE.out.up_ hb0)).out.mono ?_
      rintro e w1 ⟨rfl, hb1⟩
      have hbb : Below w.heap.size w w1 := hb0.trans (hb1.mono hb0.size)
      have hx1 := (Blk.new w 25 #[.int .i64 N, .slice A es.length c]).below hb1 (by simp)
      have c0 : w1.cell? ⟨w.heap.size, 0, none⟩ = some (.int .i64 N) := by rw [hx1.cell]; rfl
      have c1 : w1.cell? ⟨w.heap.size, 1, none⟩ = some (.slice A es.length c) := by rw [hx1.cell]; rfl
      have HS1 := Lib.hid (HS.out.up_ hbb)
      clear hb0 hb1 hx1
      go_wp2_with fail
      go_loop [19] (fun i => ∃ j : Nat, j ≤ d.length ∧ i = .int .i64 j ∧ (d.take j).all (within 60) = true) (fun i => d.length - (intOf i).toNat)
      case atStart => exact ⟨0, Nat.zero_le _, rfl, rfl⟩
      case round =>
        obtain ⟨j, hj, rfl, hall⟩ := hrel
        have HA := Lib.hid hall
        clear hall
        by_cases hlt : j < d.length
        · obtain ⟨b1, o1, x, rfl, hb1, he, hc0⟩ := HS1.out.at_ hlt
          have hj0 : (0 : Int) ≤ (j : Int) := Int.natCast_nonneg _
          have hj1 : (j : Int) < (d.length : Int) := by omega
          have HL := fun w => Lib.hid (l01In_any x (-60) 60 w)
          cases hx : inB x (-60) 60 with
          | true =>
            rw [hx] at HL
            have H := Lib.hid (allTake_snoc (p := within 60) HA.out he hx)
            clear he hx
            go_wp2_with fail
            refine (HL _).out.mono ?_
            rintro e w' ⟨rfl, rfl⟩
            go_wp2
            exact ⟨⟨j + 1, by omega, by go_num, H.out⟩, by simp [intOf]; omega⟩
          | false =>
            rw [hx] at HL
            have H := Lib.hid (all_miss (p := within 60) he hx)
            clear he hx
            go_wp2_with fail
            refine (HL _).out.mono ?_
            rintro e w' ⟨rfl, rfl⟩
            go_wp2
            go_ret
            exact ⟨ret_boolE H.out.symm, hbb⟩
        · have H := Lib.hid (allTake_end HA.out (by omega))
          go_wp2
          go_ret
          exact ⟨ret_boolE H.out.symm, hbb⟩
    · rw [divB_l hl]
      have t0 : ((d.length : Int) != N) = true := by simp [hl]
      clear hB hl
      go_enter Try.func82, Try.ntmps82
      go_wp2_with fail
      refine (HG _ (HE.out.up_ hb0)).out.mono ?_
      rintro e w1 ⟨rfl, hb1⟩
      have hbb : Below w.heap.size w w1 := hb0.trans (hb1.mono hb0.size)
      have hx1 := (Blk.new w 25 #[.int .i64 N, .slice A es.length c]).below hb1 (by simp)
      have c0 : w1.cell? ⟨w.heap.size, 0, none⟩ = some (.int .i64 N) := by rw [hx1.cell]; rfl
      have c1 : w1.cell? ⟨w.heap.size, 1, none⟩ = some (.slice A es.length c) := by rw [hx1.cell]; rfl
      clear hb0 hb1 hx1
      go_wp2
      go_ret
      exact ⟨rfl, hbb⟩

set_option maxHeartbeats 1000000 in
theorem implDiv (N : Int) (A D : Option Addr) (c cd : Nat) (es : List (Int × Int)) (d : List Int) (w : World) (hn : es.length ≤ 1048576) (hd : d.length ≤ 1048576) (hE : EdgeS w w.heap.size A es) (hS : IntS w w.heap.size D d) :
    Calls Try.prog 63 #[.agg #[.int .i64 N, .slice A es.length c], .slice D d.length cd] w fun e w' => e = .returned (.bool (divB 60 N es d)) ∧ Below w.heap.size w w' := by
  have HE := Lib.hid hE
  have HS := Lib.hid hS
  clear hE hS
  have hb0 : Below w.heap.size w (w.alloc (Obj.cells #[.int .i64 N, .slice A es.length c] 25)) := (Below.refl _ _).alloc (Nat.le_refl _) _
  have HG := fun w h => Lib.hid (implGraphOk N A c es w hn h)
  cases hB : graphB N es with
  | false =>
    rw [hB] at HG
    rw [divB_g hB]
    clear hB
    go_enter Try.func63, Try.ntmps63
    go_wp2_with fail
    refine (HG _ (HE.out.up_ hb0)).out.mono ?_
    rintro e w1 ⟨rfl, hb1⟩
    have hbb : Below w.heap.size w w1 := hb0.trans (hb1.mono hb0.size)
    clear hb0 hb1
    go_wp2
    go_ret
    exact ⟨rfl, hbb⟩
  | true =>
    rw [hB] at HG
    by_cases hl : (d.length : Int) = N
    · rw [divB_a hB hl]
      have t0 : ((d.length : Int) == N) = true := by simp [hl]
      have HW := fun w B h => Lib.hid (areWithin_any D cd B d 60 w hd (by omega) (by omega) h)
      clear hB hl
      go_enter Try.func63, Try.ntmps63
      go_wp2_with fail
      refine (HG _ (HE.out.up_ hb0)).out.mono ?_
      rintro e w1 ⟨rfl, hb1⟩
      have hbb : Below w.heap.size w w1 := hb0.trans (hb1.mono hb0.size)
      have hx1 := (Blk.new w 25 #[.int .i64 N, .slice A es.length c]).below hb1 (by simp)
      have c0 : w1.cell? ⟨w.heap.size, 0, none⟩ = some (.int .i64 N) := by rw [hx1.cell]; rfl
      have c1 : w1.cell? ⟨w.heap.size, 1, none⟩ = some (.slice A es.length c) := by rw [hx1.cell]; rfl
      have HS1 := Lib.hid (HS.out.up_ hbb)
      clear hb0 hb1 hx1
      go_wp2_with fail
      refine (HW _ _ HS1.out).out.mono ?_
      rintro e w' ⟨rfl, rfl⟩
      go_wp2
      go_ret
      exact ⟨rfl, hbb⟩
    · rw [divB_l hl]
      have t0 : ((d.length : Int) == N) = false := by simp [hl]
      clear hB hl
      go_enter Try.func63, Try.ntmps63
      go_wp2_with fail
      refine (HG _ (HE.out.up_ hb0)).out.mono ?_
      rintro e w1 ⟨rfl, hb1⟩
      have hbb : Below w.heap.size w w1 := hb0.trans (hb1.mono hb0.size)
      have hx1 := (Blk.new w 25 #[.int .i64 N, .slice A es.length c]).below hb1 (by simp)
      have c0 : w1.cell? ⟨w.heap.size, 0, none⟩ = some (.int .i64 N) := by rw [hx1.cell]; rfl
      have c1 : w1.cell? ⟨w.heap.size, 1, none⟩ = some (.slice A es.length c) := by rw [hx1.cell]; rfl
      clear hb0 hb1 hx1
      go_wp2
      go_ret
      exact ⟨rfl, hbb⟩
end Go.Proofs.Ytcfhkaefjhcglaa
