/- The program's reduce. -/
import Derived.Test.YtcfhkaefjhcglaaRdL
namespace Go.Proofs.Ytcfhkaefjhcglaa
open Go.RowKit

/-- what reduce gives: a reduction in new memory that has come to its end -/
def GivesRdn (w : World) (M : Nat) (A : Option Addr) (c : Nat) (es : List (Int × Int)) (d : List Int) (q : Nat) (e : Ending) (w' : World) : Prop :=
  ∃ (pr pb g cg gs : Nat) (f : Nat → Int), e = .returned (.pointer (some ⟨pr, 0, none⟩)) ∧ IsRed M es d q f ∧ RdI w' w.heap.size pr pb g cg gs M q A c es d f ∧ RdN w.heap.size pr pb g gs ∧ Below w.heap.size w w'
set_option maxRecDepth 100000 in
set_option maxHeartbeats 8000000 in
theorem reduce_any (A D : Option Addr) (c cd M q : Nat) (es : List (Int × Int)) (d : List Int) (w : World) (hM0 : 0 < M) (hM : M ≤ 6) (hq : q < M) (hd : d.length = M) (hn : es.length ≤ 12) (hes : ∀ e ∈ es, 0 ≤ e.1 ∧ e.1 < e.2 ∧ e.2 < (M : Int)) (hdb : ∀ u, -60 ≤ d.getD u 0 ∧ d.getD u 0 ≤ 60) (hc : Cut M es)
    (hE : EdgeS w w.heap.size A es) (hS : IntS w w.heap.size D d) :
    Calls Try.prog 70 #[.agg #[.int .i64 (M : Int), .slice A es.length c], .slice D d.length cd, .int .i64 (q : Int)] w (GivesRdn w M A c es d q) := by
  obtain ⟨σ, hw⟩ := wt_exists hM hn hq hes hc
  have hmk := make_ints M (by omega)
  have hdw : ∀ x ∈ d, -9223372036854775808 ≤ x ∧ x ≤ 9223372036854775807 := fun x hx => by
    obtain ⟨i, hi⟩ := List.getElem?_of_mem hx
    have := hdb i
    simp [List.getD, hi] at this
    omega
  have HST := Lib.hid (show d = chipsOf M (Dv d es fun _ => 0) from by
    have h1 := chips_start hd hdw
    rw [← h1]
    exact chipsOf_eq fun u _ => by rw [h1, Dv, termsF_zero (fun _ => rfl)]; omega)
  have BO := fun (w' : World) (hb : Below w.heap.size w w') => Lib.hid (show Calls Try.prog 64 #[.agg #[.int .i64 (M : Int), .slice A es.length c], .slice D M cd] w' (fun e w'' => ∃ p g cg : Nat, e = .returned (.pointer (some ⟨p, 0, none⟩)) ∧ Blk w'' p 69 #[.slice A es.length c, .slice (some ⟨g, 0, none⟩) M cg] ∧ Chips w'' g d ∧ w'.heap.size ≤ g ∧ g < p ∧ Below w'.heap.size w' w'') from by
    have h := boardOf_any (M : Int) A D es.length c cd d w' (by omega) (by omega) (hS.up_ hb)
    unfold GivesBoard at h
    rw [hd] at h
    exact h)
  have PD := fun (pr pb g cg gs : Nat) (w' : World) (hb : Below w.heap.size w w') (hN : RdN w.heap.size pr pb g gs) (hR : RdI w' w.heap.size pr pb g cg gs M q A c es d (fun _ => 0)) => Lib.hid (payDebts_any w.heap.size pr pb g cg gs M q A c es d w' hM hq hn hes hdb hc hb.size (hE.keep (fun p hp => hb.cell hp) (Nat.le_refl _)) hN hR)
  have FS := fun (pr pb g cg gs : Nat) (f : Nat → Int) (w' : World) (hb : Below w.heap.size w w') (hN : RdN w.heap.size pr pb g gs) (hP : Ph1 M es d q f) (hH : hasDebt (chipsOf M (Dv d es f)) (q : Int) = false) (hR : RdI w' w.heap.size pr pb g cg gs M q A c es d f) => Lib.hid (fireSpared_any w.heap.size pr pb g cg gs M q A c es d f σ w' hM0 hM hq hn hes hdb hc hw hb.size (hE.keep (fun p hp => hb.cell hp) (Nat.le_refl _)) hN (hP.end_ hw hM hes hdb (noDebt hn hdb hes (hP.wide hw hM hes hdb) hH)) hR)
  have hM1 : (0 : Int) ≤ (M : Int) := Int.natCast_nonneg _
  rw [hd]
  clear hw hes hdb hc hE hS hd hdw
  go_enter Try.func70, Try.ntmps70
  go_wp2_with fail
  obtain ⟨W0, hW0⟩ : ∃ X : World, X = w.alloc (Obj.cells #[.int .i64 (M : Int), .slice A es.length c] 25) := ⟨_, rfl⟩
  rw [← hW0]
  have hb0 : Below w.heap.size w W0 := by rw [hW0]; exact (Below.refl _ _).alloc (Nat.le_refl _) _
  have hx0 : Blk W0 w.heap.size 25 #[.int .i64 (M : Int), .slice A es.length c] := by rw [hW0]; exact Blk.new w _ _
  have c0 : W0.cell? ⟨w.heap.size, 0, none⟩ = some (.int .i64 (M : Int)) := by rw [hx0.cell]; rfl
  have c1 : W0.cell? ⟨w.heap.size, 1, none⟩ = some (.slice A es.length c) := by rw [hx0.cell]; rfl
  have l0 : w.heap.size < W0.heap.size := hx0.lt
  clear hW0 hx0
  go_region_held3 (fun w' => w'.cell? ⟨w.heap.size, 0, none⟩ = some (.int .i64 (M : Int)) ∧ w'.cell? ⟨w.heap.size, 1, none⟩ = some (.slice A es.length c) ∧ Below W0.heap.size W0 w')
    (first
      | exact ⟨c0, c1, (Below.refl _ _).drew⟩
      | assumption
      | exact keepRd (by assumption) hb2 l0 l0
      | exact keepRd (by assumption) ((Below.refl _ _).alloc (Nat.le_refl _) _) l0 l0)
    (first
      | (go_at_call 64; refine (BO _ (by first | exact hb0.drew | exact (hb0.drew.alloc (by simpa using hb0.size) _) | exact (hb0.alloc hb0.size _).drew)).out.mono ?_; rintro e w2 ⟨p, g, cg, rfl, hbrd, hch, hg, hgp, hb2⟩))
  · obtain ⟨W3, hW3⟩ : ∃ X : World, X = (w2.alloc (Obj.cells (intCells (List.replicate M 0)).toArray 3)).alloc (Obj.cells #[.pointer (some ⟨p, 0, none⟩), .int .i64 (q : Int), .slice (some ⟨w2.heap.size, 0, none⟩) M M] 78) := ⟨_, rfl⟩
    rw [← hW3]
    have hsc := Blk.new w2 3 (intCells (List.replicate M 0)).toArray
    rw [chips_zero] at hsc
    have hrd := Blk.new (w2.alloc (Obj.cells (intCells (List.replicate M 0)).toArray 3)) 78 #[.pointer (some ⟨p, 0, none⟩), .int .i64 (q : Int), .slice (some ⟨w2.heap.size, 0, none⟩) M M]
    rw [World.size_alloc, ← hW3] at hrd
    have hba : Below w2.heap.size w2 W3 := by rw [hW3]; exact ((Below.refl _ _).alloc (Nat.le_refl _) _).alloc (by simp) _
    have hch0 := hch
    rw [HST.out] at hch0
    have hp2 := hbrd.lt
    have hW : W0.heap.size ≤ g := hg
    have hR3 : RdI W3 w.heap.size (w2.heap.size + 1) p g cg w2.heap.size M q A c es d (fun _ => 0) := ⟨hrd, hbrd.below hba hp2, hch0.below hba, by
      rw [hW3, chips_zero]
      exact (Chips.of_blk hsc).below ((Below.refl _ _).alloc (Nat.le_refl _) _)⟩
    have hN3 : RdN w.heap.size (w2.heap.size + 1) p g w2.heap.size := ⟨by omega, by omega, by omega, by omega, by omega, by omega, by omega, by omega, by omega⟩
    have hb3 : Below w.heap.size w W3 := (hb0.drew.trans (hb2.mono hb0.size)).trans (hba.mono (by omega))
    clear hsc hrd hba hch0 hp2 hW
    have HR3 := Lib.hid hR3
    have HN3 := Lib.hid hN3
    have HB3 := Lib.hid hb3
    clear hW3 hR3 hN3 hb3 hbrd hch hg hgp hb2 c0 c1
    go_wp2_with fail
    refine (PD _ _ _ _ _ _ HB3.out HN3.out HR3.out).out.mono ?_
    rintro e w4 ⟨rfl, f, hp4, hh4, hr4, hb4⟩
    have HB4 := Lib.hid (HB3.out.trans hb4)
    have FSX := Lib.hid (FS _ _ _ _ _ f w4 HB4.out HN3.out hp4 hh4 hr4)
    clear hp4 hh4 hr4 hb4
    go_wp2_with fail
    refine FSX.out.out.mono ?_
    rintro e w5 ⟨rfl, f5, hi5, hr5, hb5⟩
    have HI5 := Lib.hid hi5
    have HR5 := Lib.hid hr5
    have HB5 := Lib.hid (HB4.out.trans hb5)
    clear hi5 hr5 hb5
    go_wp2
    go_ret
    exact ⟨_, _, _, _, _, f5, rfl, HI5.out, HR5.out, HN3.out, HB5.out⟩
  · obtain ⟨W3, hW3⟩ : ∃ X : World, X = w2.alloc (Obj.cells #[.pointer (some ⟨p, 0, none⟩), .int .i64 (q : Int), .slice (some ⟨W0.heap.size, 0, none⟩) M M] 78) := ⟨_, rfl⟩
    rw [← hW3]
    have hsc := Blk.new W0 3 (intCells (List.replicate M 0)).toArray
    rw [chips_zero] at hsc
    have hgs : Chips w2 W0.heap.size (chipsOf M fun _ => 0) := by
      have h1 := (Chips.of_blk hsc).below ((Below.refl _ _).drew)
      rw [chips_zero] at hb2
      exact h1.below hb2
    have hrd := Blk.new w2 78 #[.pointer (some ⟨p, 0, none⟩), .int .i64 (q : Int), .slice (some ⟨W0.heap.size, 0, none⟩) M M]
    rw [← hW3] at hrd
    have hba : Below w2.heap.size w2 W3 := by rw [hW3]; exact (Below.refl _ _).alloc (Nat.le_refl _) _
    have hch0 := hch
    rw [HST.out] at hch0
    have hp2 := hbrd.lt
    have hW : W0.heap.size + 1 ≤ g := by have := hg; simpa using this
    have hR3 : RdI W3 w.heap.size w2.heap.size p g cg W0.heap.size M q A c es d (fun _ => 0) := ⟨hrd, hbrd.below hba hp2, hch0.below hba, hgs.below hba⟩
    have hN3 : RdN w.heap.size w2.heap.size p g W0.heap.size := ⟨by omega, by omega, by omega, by omega, by omega, by omega, by omega, by omega, by omega⟩
    have hb3 : Below w.heap.size w W3 := ((hb0.alloc hb0.size _).drew.trans (hb2.mono (by simp; omega))).trans (hba.mono (by omega))
    clear hsc hrd hba hch0 hp2 hW hgs
    have HR3 := Lib.hid hR3
    have HN3 := Lib.hid hN3
    have HB3 := Lib.hid hb3
    clear hW3 hR3 hN3 hb3 hbrd hch hg hgp hb2 c0 c1
    go_wp2_with fail
    refine (PD _ _ _ _ _ _ HB3.out HN3.out HR3.out).out.mono ?_
    rintro e w4 ⟨rfl, f, hp4, hh4, hr4, hb4⟩
    have HB4 := Lib.hid (HB3.out.trans hb4)
    have FSX := Lib.hid (FS _ _ _ _ _ f w4 HB4.out HN3.out hp4 hh4 hr4)
    clear hp4 hh4 hr4 hb4
    go_wp2_with fail
    refine FSX.out.out.mono ?_
    rintro e w5 ⟨rfl, f5, hi5, hr5, hb5⟩
    have HI5 := Lib.hid hi5
    have HR5 := Lib.hid hr5
    have HB5 := Lib.hid (HB4.out.trans hb5)
    clear hi5 hr5 hb5
    go_wp2
    go_ret
    exact ⟨_, _, _, _, _, f5, rfl, HI5.out, HR5.out, HN3.out, HB5.out⟩
end Go.Proofs.Ytcfhkaefjhcglaa
