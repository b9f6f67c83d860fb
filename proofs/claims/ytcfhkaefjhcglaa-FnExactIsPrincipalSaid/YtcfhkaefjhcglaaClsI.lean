/- The program's helpers of equivalence: slices.Min, raised, isWon; what reduce gives, as lists. -/
import Derived.Test.YtcfhkaefjhcglaaCls
import Derived.Test.YtcfhkaefjhcglaaClsG
import Derived.Test.YtcfhkaefjhcglaaBA
import Derived.Test.YtcfhkaefjhcglaaShMin
import Derived.Test.YtcfhkaefjhcglaaNeg
namespace Go.Proofs.Ytcfhkaefjhcglaa
open Go.RowKit

theorem leastF_foldl : ∀ (l : List Int) (x : Int), leastF x l = l.foldl min x
  | [], _ => rfl
  | y :: l, x => by rw [leastF, leastF_foldl l, List.foldl_cons]
theorem minOf_least {l : List Int} (h : 0 < l.length) : Lib.minOf l = leastB l := by
  cases l with
  | nil => simp at h
  | cons x l => rw [Lib.minOf, List.headD_cons, List.foldl_cons, Int.min_self, leastB, leastF_foldl]
theorem min_any (A : Option Addr) (c : Nat) (xs : List Int) (w : World) (h0 : 0 < xs.length) (hn : xs.length ≤ 1048576) (hS : IntS w w.heap.size A xs) :
    Calls Try.prog 106 #[.slice A xs.length c] w fun e w' => e = .returned (.int .i64 (leastB xs)) ∧ w' = w := by
  obtain ⟨b, o, rfl, hb, hc⟩ := hS h0
  have h := Try.slices_Min_int b o xs.length c xs w h0 (Nat.le_refl _) (by omega) (fun j hj => hc j _ (by simp [List.getD, hj]))
  rw [List.take_of_length_le (Nat.le_refl _), minOf_least h0] at h
  exact h
set_option maxRecDepth 100000 in
set_option maxHeartbeats 2000000 in
theorem raised_any (A : Option Addr) (c : Nat) (xs : List Int) (w : World) (h0 : 0 < xs.length) (hn : xs.length ≤ 1048576) (hS : IntS w w.heap.size A xs) :
    Calls Try.prog 72 #[.slice A xs.length c] w (GivesInts w (liftB xs)) := by
  have hmk := make_ints xs.length hn
  have HS := Lib.hid hS
  have HL := Lib.hid (liftB_len xs)
  have HM := Lib.hid (min_any A c xs w h0 hn hS)
  clear hS
  go_enter Try.func72, Try.ntmps72
  go_wp2_with fail
  refine HM.out.mono ?_
  rintro e w1 ⟨rfl, e1⟩
  subst e1
  clear HM
  obtain ⟨m, hm⟩ : ∃ m, m = leastB xs := ⟨_, rfl⟩
  rw [← hm]
  have HMM := Lib.hid hm
  clear hm
  go_wp2
  go_loopw [14] (fun i wr => ∃ k : Nat, k ≤ xs.length ∧ i = .int .i64 k ∧ Blk wr w1.heap.size 3 (intCells (partI (liftB xs) k)).toArray ∧ Below w1.heap.size w1 wr) (fun i _ => xs.length - (intOf i).toNat)
  case atStart =>
    refine ⟨0, Nat.zero_le _, rfl, ?_, (Below.refl _ _).alloc (Nat.le_refl _) _⟩
    rw [partI_len0, HL.out]
    exact Blk.new w1 _ _
  case round =>
    obtain ⟨k, hk, rfl, hblk, hb⟩ := hrel
    have HB := Lib.hid hblk
    clear hblk hmk
    by_cases hlt : k < xs.length
    · obtain ⟨b1, o1, x, rfl, hb1, he, hc0⟩ := (HS.out.below hb).at_ hlt
      have hi0 : (0 : Int) ≤ (k : Int) := Int.natCast_nonneg _
      have hi1 : (k : Int) < (xs.length : Int) := by omega
      have HX := Lib.hid (liftB_at he)
      rw [← HMM.out] at HX
      clear he
      have hf0 := HB.out.frozen k
      have hcl0 : wr.cell? ⟨w1.heap.size, k, none⟩ = some (.int .i64 0) := by rw [HB.out.cell]; simp [intCells, partI_at (liftB xs) k (by rw [HL.out]; exact hlt)]
      go_wp2
      exact ⟨⟨k + 1, by omega, by go_num, blk_partI HB.out HX.out, hb.setCell (Nat.le_refl _) _⟩, by simp [intOf]; omega⟩
    · have HB2 := HB.out
      rw [show k = (liftB xs).length by rw [HL.out]; omega, partI_all] at HB2
      have HB3 := Lib.hid HB2
      clear HB2
      go_wp2
      go_ret
      exact ⟨some ⟨w1.heap.size, 0, none⟩, xs.length, by rw [HL.out]; rfl, OwnI.of_blk HB3.out (Nat.le_refl _), hb⟩
/-- the program's reduction that has come to its end: its box, its board, the chips and the script -/
structure RedP (w : World) (B pr pb g cg gs M : Nat) (xs ss : List Int) : Prop where
  c0 : w.cell? ⟨pr, 0, none⟩ = some (.pointer (some ⟨pb, 0, none⟩))
  c2 : w.cell? ⟨pr, 2, none⟩ = some (.slice (some ⟨gs, 0, none⟩) M M)
  b1 : w.cell? ⟨pb, 1, none⟩ = some (.slice (some ⟨g, 0, none⟩) M cg)
  xs : OwnI w B (some ⟨g, 0, none⟩) xs
  ss : OwnI w B (some ⟨gs, 0, none⟩) ss
theorem RedP.next {w w' : World} {B pr pb g cg gs M : Nat} {xs ss : List Int} (h : RedP w B pr pb g cg gs M xs ss) (hb : Below w.heap.size w w') : RedP w' B pr pb g cg gs M xs ss :=
  ⟨(hb.cell (World.block_lt_of_cell? w _ h.c0)).trans h.c0, (hb.cell (World.block_lt_of_cell? w _ h.c2)).trans h.c2, (hb.cell (World.block_lt_of_cell? w _ h.b1)).trans h.b1, h.xs.below hb, h.ss.below hb⟩
theorem implRd2 (A D : Option Addr) (c cd M : Nat) (es : List (Int × Int)) (d : List Int) (w : World) (hd : divB 60 (M : Int) es d = true) (hE : EdgeS w w.heap.size A es) (hS : IntS w w.heap.size D d) :
    Calls Try.prog 70 #[.agg #[.int .i64 (M : Int), .slice A es.length c], .slice D d.length cd, .int .i64 0] w (fun e w' => ∃ pr pb g cg gs : Nat, e = .returned (.pointer (some ⟨pr, 0, none⟩)) ∧ RedP w' w.heap.size pr pb g cg gs M (redR (M : Int) es d 0) (scrR (M : Int) es d 0) ∧ Below w.heap.size w w') := by
  obtain ⟨M', hM, h0, h6, hn, hl, hes, hdb, hc⟩ := div_limsB hd
  obtain rfl : M' = M := by omega
  refine (reduce_any A D c cd M' 0 es d w h0 h6 h0 hl hn hes hdb hc.cut hE hS).mono ?_
  rintro e w' ⟨pr, pb, g, cg, gs, f, rfl, hf, hr, hN, hb⟩
  have h1 := red_same hf h0 hn hdb hes
  have hb0 := div_burn hd
  have hx := hr.chips.own (base := w.heap.size) hN.n1
  have hs := hr.scr.own (base := w.heap.size) hN.n2
  rw [h1.2] at hx
  rw [h1.1] at hs
  refine ⟨pr, pb, g, cg, gs, rfl, ⟨by rw [hr.red.cell]; rfl, by rw [hr.red.cell]; rfl, by rw [hr.brd.cell]; rfl, ?_, ?_⟩, hb⟩
  · rw [redR_t hb0, Int.toNat_natCast]
    exact hx
  · rw [scrR_t hb0, Int.toNat_natCast]
    exact hs
/-- there is a reducing script: reduce always comes to its end -/
theorem red_ex (A D : Option Addr) (M : Nat) (es : List (Int × Int)) (d : List Int) (w : World) (hd : divB 60 (M : Int) es d = true) (hE : EdgeS w w.heap.size A es) (hS : IntS w w.heap.size D d) : ∃ f, IsRed M es d 0 f := by
  obtain ⟨M', hM, h0, h6, hn, hl, hes, hdb, hc⟩ := div_limsB hd
  obtain rfl : M' = M := by omega
  obtain ⟨e, w', fr, ⟨pr, pb, g, cg, gs, f, -, hf, -⟩, -⟩ := reduce_any A D 0 0 M' 0 es d w h0 h6 h0 hl hn hes hdb hc.cut hE hS []
  exact ⟨f, hf⟩
set_option maxHeartbeats 1000000 in
theorem isWon_any (B pr pb g cg gs M : Nat) (xs ss : List Int) (w : World) (hl : xs.length = M) (hM : M ≤ 1048576) (h : RedP w B pr pb g cg gs M xs ss) :
    Calls Try.prog 77 #[.pointer (some ⟨pr, 0, none⟩)] w fun e w' => e = .returned (.bool (posAll xs)) ∧ Below w.heap.size w w' := by
  have HE := implEff (some ⟨g, 0, none⟩) cg xs w (by omega) h.xs.ints
  rw [hl] at HE
  have HE2 := Lib.hid HE
  have c0 := h.c0
  have b1 := h.b1
  clear h hl HE
  go_enter Try.func77, Try.ntmps77
  go_wp2_with fail
  refine HE2.out.mono ?_
  rintro e w1 ⟨rfl, hb⟩
  go_wp2
  go_ret
  exact ⟨rfl, hb⟩
end Go.Proofs.Ytcfhkaefjhcglaa
