/- The declarations of other texts that this seat needs (made by tools/thin.py). -/
import Derived.Deep.LoopGhost
import Derived.Deep.CutRange
import Derived.Deep.RegionHeld3
import Derived.Deep.AppendLies
import Derived.Deep.RegionLaw
import Derived.Maps.AppendAt
import Derived.Test.YtpifbegafnhclaaSh

import Derived.Test.YtpifbegafnhclaaBF
import Derived.Test.YtpifbegafnhclaaBB
import Derived.Test.YtpifbegafnhclaaBC
import Derived.Test.YtpifbegafnhclaaBG
import Derived.Test.YtpifbegafnhclaaBA
namespace Go.Proofs.Ytpifbegafnhclaa
open Go.RowKit
section
variable {w w' : World} {lo hi g : Nat}
theorem Moves.set_ (h : Moves g (g + 1) w w') (i : Nat) (u : Value) : Moves g (g + 1) w (w'.setCell ⟨g, i, none⟩ u) :=
  ⟨h.os, h.tape, h.output, by simpa [World.setCell] using h.size, fun k hk ho => (Below.heap_setCell w' ⟨g, i, none⟩ u k (by simp only; omega)).trans (h.block k hk ho)⟩
theorem Moves.refl (w : World) (lo hi : Nat) : Moves lo hi w w := ⟨rfl, rfl, rfl, Nat.le_refl _, fun _ _ _ => rfl⟩
theorem Moves.trans {w3 : World} (h : Moves lo hi w w') (k : Moves lo hi w' w3) : Moves lo hi w w3 :=
  ⟨k.os.trans h.os, k.tape.trans h.tape, k.output.trans h.output, Nat.le_trans h.size k.size, fun i hi2 ho => (k.block i (Nat.lt_of_lt_of_le hi2 h.size) ho).trans (h.block i hi2 ho)⟩
theorem Moves.alloc (h : Moves lo hi w w') (o : Obj) : Moves lo hi w (w'.alloc o) :=
  ⟨h.os, h.tape, h.output, by simp; have := h.size; omega, fun k hk ho => (Below.heap_alloc w' o k (Nat.lt_of_lt_of_le hk h.size)).trans (h.block k hk ho)⟩
theorem Moves.below {B : Nat} (h : Moves lo hi w w') (hB : B ≤ lo) (hs : B ≤ w.heap.size) : Below B w w' :=
  ⟨h.os, h.tape, h.output, h.size, fun i hi => h.block i (by omega) (.inl (by omega))⟩
end
def within (m z : Int) : Bool := inB z (-m) m
theorem within_f {m z : Int} (h : z < -m ∨ m < z) : within m z = false := inB_f h
theorem within_t {m z : Int} (h : -m ≤ z ∧ z ≤ m) : within m z = true := inB_t h
theorem within_iff {m z : Int} (h : within m z = true) : -m ≤ z ∧ z ≤ m := by simpa [within, inB] using h
theorem all_miss {xs : List Int} {k : Nat} {z : Int} {p : Int → Bool} (he : xs[k]? = some z) (h : p z = false) : xs.all p = false := by
  rw [List.all_eq_false]
  exact ⟨z, List.mem_of_getElem? he, by simp [h]⟩
set_option maxHeartbeats 400000 in
theorem isBeyond_any (z m : Int) (w : World) (h0 : 0 ≤ m) (hm : m ≤ 1000000) : Calls Try.prog 62 #[.int .i64 z, .int .i64 m] w fun e w' => e = .returned (.bool (!within m z)) ∧ w = w' := by
  by_cases h1 : z < -m
  · rw [within_f (.inl h1)]
    have t1 : decide (z < -m) = true := decide_eq_true h1
    go_enter Try.func62, Try.ntmps62
    go_wp2
    go_ret
    exact ⟨rfl, rfl⟩
  · have t1 : decide (z < -m) = false := decide_eq_false h1
    by_cases h2 : m < z
    · rw [within_f (.inr h2)]
      have t2 : decide (m < z) = true := decide_eq_true h2
      clear h1
      go_enter Try.func62, Try.ntmps62
      go_wp2
      go_ret
      exact ⟨rfl, rfl⟩
    · rw [within_t ⟨by omega, by omega⟩]
      have t2 : decide (m < z) = false := decide_eq_false h2
      clear h1 h2
      go_enter Try.func62, Try.ntmps62
      go_wp2
      go_ret
      exact ⟨rfl, rfl⟩
set_option maxHeartbeats 400000 in
theorem areWithin_any (A : Option Addr) (c B : Nat) (xs : List Int) (m : Int) (w : World) (hn : xs.length ≤ 1048576) (h0 : 0 ≤ m) (hm : m ≤ 1000000) (hS : IntS w B A xs) :
    Calls Try.prog 49 #[.slice A xs.length c, .int .i64 m] w fun e w' => e = .returned (.bool (xs.all (within m))) ∧ w = w' := by
  have HS := Lib.hid hS
  clear hS
  go_enter Try.func49, Try.ntmps49
  go_wp2
  go_loop [9] (fun i => ∃ j : Nat, j ≤ xs.length ∧ i = .int .i64 j ∧ (xs.take j).all (within m) = true) (fun i => xs.length - (intOf i).toNat)
  case atStart => exact ⟨0, Nat.zero_le _, rfl, rfl⟩
  case round =>
    obtain ⟨j, hj, rfl, hall⟩ := hrel
    have HA := Lib.hid hall
    clear hall
    by_cases hlt : j < xs.length
    · obtain ⟨b1, o1, x, rfl, hb1, he, hc0⟩ := HS.out.at_ hlt
      have hj0 : (0 : Int) ≤ (j : Int) := Int.natCast_nonneg _
      have hj1 : (j : Int) < (xs.length : Int) := by omega
      cases hx : within m x with
      | true =>
        have H := Lib.hid (allTake_snoc HA.out he hx)
        have HB := isBeyond_any x m
        rw [hx] at HB
        have HC := fun w => Lib.hid (HB w h0 hm)
        clear he hx HB
        go_wp2_with fail
        refine (HC _).out.mono ?_
        rintro e w' ⟨rfl, rfl⟩
        go_wp2
        exact ⟨⟨j + 1, by omega, by go_num, H.out⟩, by simp [intOf]; omega⟩
      | false =>
        have H := Lib.hid (all_miss (p := within m) he hx)
        have HB := isBeyond_any x m
        rw [hx] at HB
        have HC := fun w => Lib.hid (HB w h0 hm)
        clear he hx HB
        go_wp2_with fail
        refine (HC _).out.mono ?_
        rintro e w' ⟨rfl, rfl⟩
        go_wp2
        go_ret
        exact ⟨ret_boolE H.out.symm, rfl⟩
    · have H := Lib.hid (allTake_end HA.out (by omega))
      go_wp2
      go_ret
      exact ⟨ret_boolE H.out.symm, rfl⟩
noncomputable def divB (m : Int) (N : Int) (es : List (Int × Int)) (d : List Int) : Bool := graphB N es && (decide ((d.length : Int) = N) && d.all (within m))
theorem divB_g {m N : Int} {es : List (Int × Int)} {d : List Int} (h : graphB N es = false) : divB m N es d = false := by simp [divB, h]
theorem divB_l {m N : Int} {es : List (Int × Int)} {d : List Int} (h : (d.length : Int) ≠ N) : divB m N es d = false := by simp [divB, h]
theorem divB_a {m N : Int} {es : List (Int × Int)} {d : List Int} (h : graphB N es = true) (h2 : (d.length : Int) = N) : divB m N es d = d.all (within m) := by simp [divB, h, h2]
theorem divB_all {m N : Int} {es : List (Int × Int)} {d : List Int} (h : divB m N es d = true) : graphB N es = true ∧ (d.length : Int) = N ∧ ∀ x ∈ d, -m ≤ x ∧ x ≤ m := by
  simp only [divB, Bool.and_eq_true, decide_eq_true_eq, List.all_eq_true] at h
  exact ⟨h.1, h.2.1, fun x hx => within_iff (h.2.2 x hx)⟩
set_option maxHeartbeats 1000000 in
theorem specDiv (N : Int) (A D : Option Addr) (c cd : Nat) (es : List (Int × Int)) (d : List Int) (w : World) (hn : es.length ≤ 1048576) (hd : d.length ≤ 1048576) (hE : EdgeS w w.heap.size A es) (hS : IntS w w.heap.size D d) :
    Calls Try.prog 28 #[.agg #[.int .i64 N, .slice A es.length c], .slice D d.length cd] w fun e w' => e = .returned (.bool (divB 60 N es d)) ∧ Below w.heap.size w w' := by
  have HE := Lib.hid hE
  have HS := Lib.hid hS
  clear hE hS
  have hb0 : Below w.heap.size w (w.alloc (Obj.cells #[.int .i64 N, .slice A es.length c] 30)) := (Below.refl _ _).alloc (Nat.le_refl _) _
  have HG := fun w h => Lib.hid (specGraphOk N A c es w (by omega) h)
  cases hB : graphB N es with
  | false =>
    rw [hB] at HG
    rw [divB_g hB]
    clear hB
    go_enter Try.func28, Try.ntmps28
    go_wp2_with fail
    refine (HG _ (HE.out.up_ hb0)).out.mono ?_
    rintro e w1 ⟨rfl, hb1⟩
    have hbb : Below w.heap.size w w1 := hb0.trans (hb1.mono hb0.size)
    clear hb0 hb1
    go_wp2
    go_ret
    exact ⟨rfl, hbb⟩
  | true =>
    rw [hB] at HG
    by_cases hl : (d.length : Int) = N
    · rw [divB_a hB hl]
      have t0 : ((d.length : Int) != N) = false := by simp [hl]
      clear hB hl
      go_enter Try.func28, Try.ntmps28
      go_wp2_with fail
      refine (HG _ (HE.out.up_ hb0)).out.mono ?_
      rintro e w1 ⟨rfl, hb1⟩
      have hbb : Below w.heap.size w w1 := hb0.trans (hb1.mono hb0.size)
      have hx1 := (Blk.new w 30 #[.int .i64 N, .slice A es.length c]).below hb1 (by simp)
      have c0 : w1.cell? ⟨w.heap.size, 0, none⟩ = some (.int .i64 N) := by rw [hx1.cell]; rfl
      have c1 : w1.cell? ⟨w.heap.size, 1, none⟩ = some (.slice A es.length c) := by rw [hx1.cell]; rfl
      have HS1 := Lib.hid (HS.out.up_ hbb)
      clear hb0 hb1 hx1
      go_wp2_with fail
      go_loop [19] (fun i => ∃ j : Nat, j ≤ d.length ∧ i = .int .i64 j ∧ (d.take j).all (within 60) = true) (fun i => d.length - (intOf i).toNat)
      case atStart => exact ⟨0, Nat.zero_le _, rfl, rfl⟩
      case round =>
        obtain ⟨j, hj, rfl, hall⟩ := hrel
        have HA := Lib.hid hall
        clear hall
        by_cases hlt : j < d.length
        · obtain ⟨b1, o1, x, rfl, hb1, he, hc0⟩ := HS1.out.at_ hlt
          have hj0 : (0 : Int) ≤ (j : Int) := Int.natCast_nonneg _
          have hj1 : (j : Int) < (d.length : Int) := by omega
          have HL := fun w => Lib.hid (l01In_any x (-60) 60 w)
          cases hx : inB x (-60) 60 with
          | true =>
            rw [hx] at HL
            have H := Lib.hid (allTake_snoc (p := within 60) HA.out he hx)
            clear he hx
            go_wp2_with fail
            refine (HL _).out.mono ?_
            rintro e w' ⟨rfl, rfl⟩
            go_wp2
            exact ⟨⟨j + 1, by omega, by go_num, H.out⟩, by simp [intOf]; omega⟩
          | false =>
            rw [hx] at HL
            have H := Lib.hid (all_miss (p := within 60) he hx)
            clear he hx
            go_wp2_with fail
            refine (HL _).out.mono ?_
            rintro e w' ⟨rfl, rfl⟩
            go_wp2
            go_ret
            exact ⟨ret_boolE H.out.symm, hbb⟩
        · have H := Lib.hid (allTake_end HA.out (by omega))
          go_wp2
          go_ret
          exact ⟨ret_boolE H.out.symm, hbb⟩
    · rw [divB_l hl]
      have t0 : ((d.length : Int) != N) = true := by simp [hl]
      clear hB hl
      go_enter Try.func28, Try.ntmps28
      go_wp2_with fail
      refine (HG _ (HE.out.up_ hb0)).out.mono ?_
      rintro e w1 ⟨rfl, hb1⟩
      have hbb : Below w.heap.size w w1 := hb0.trans (hb1.mono hb0.size)
      have hx1 := (Blk.new w 30 #[.int .i64 N, .slice A es.length c]).below hb1 (by simp)
      have c0 : w1.cell? ⟨w.heap.size, 0, none⟩ = some (.int .i64 N) := by rw [hx1.cell]; rfl
      have c1 : w1.cell? ⟨w.heap.size, 1, none⟩ = some (.slice A es.length c) := by rw [hx1.cell]; rfl
      clear hb0 hb1 hx1
      go_wp2
      go_ret
      exact ⟨rfl, hbb⟩

set_option maxHeartbeats 1000000 in
theorem implDiv (N : Int) (A D : Option Addr) (c cd : Nat) (es : List (Int × Int)) (d : List Int) (w : World) (hn : es.length ≤ 1048576) (hd : d.length ≤ 1048576) (hE : EdgeS w w.heap.size A es) (hS : IntS w w.heap.size D d) :
    Calls Try.prog 30 #[.agg #[.int .i64 N, .slice A es.length c], .slice D d.length cd] w fun e w' => e = .returned (.bool (divB 60 N es d)) ∧ Below w.heap.size w w' := by
  have HE := Lib.hid hE
  have HS := Lib.hid hS
  clear hE hS
  have hb0 : Below w.heap.size w (w.alloc (Obj.cells #[.int .i64 N, .slice A es.length c] 30)) := (Below.refl _ _).alloc (Nat.le_refl _) _
  have HG := fun w h => Lib.hid (implGraphOk N A c es w hn h)
  cases hB : graphB N es with
  | false =>
    rw [hB] at HG
    rw [divB_g hB]
    clear hB
    go_enter Try.func30, Try.ntmps30
    go_wp2_with fail
    refine (HG _ (HE.out.up_ hb0)).out.mono ?_
    rintro e w1 ⟨rfl, hb1⟩
    have hbb : Below w.heap.size w w1 := hb0.trans (hb1.mono hb0.size)
    clear hb0 hb1
    go_wp2
    go_ret
    exact ⟨rfl, hbb⟩
  | true =>
    rw [hB] at HG
    by_cases hl : (d.length : Int) = N
    · rw [divB_a hB hl]
      have t0 : ((d.length : Int) == N) = true := by simp [hl]
      have HW := fun w B h => Lib.hid (areWithin_any D cd B d 60 w hd (by omega) (by omega) h)
      clear hB hl
      go_enter Try.func30, Try.ntmps30
      go_wp2_with fail
      refine (HG _ (HE.out.up_ hb0)).out.mono ?_
      rintro e w1 ⟨rfl, hb1⟩
      have hbb : Below w.heap.size w w1 := hb0.trans (hb1.mono hb0.size)
      have hx1 := (Blk.new w 30 #[.int .i64 N, .slice A es.length c]).below hb1 (by simp)
      have c0 : w1.cell? ⟨w.heap.size, 0, none⟩ = some (.int .i64 N) := by rw [hx1.cell]; rfl
      have c1 : w1.cell? ⟨w.heap.size, 1, none⟩ = some (.slice A es.length c) := by rw [hx1.cell]; rfl
      have HS1 := Lib.hid (HS.out.up_ hbb)
      clear hb0 hb1 hx1
      go_wp2_with fail
      refine (HW _ _ HS1.out).out.mono ?_
      rintro e w' ⟨rfl, rfl⟩
      go_wp2
      go_ret
      exact ⟨rfl, hbb⟩
    · rw [divB_l hl]
      have t0 : ((d.length : Int) == N) = false := by simp [hl]
      clear hB hl
      go_enter Try.func30, Try.ntmps30
      go_wp2_with fail
      refine (HG _ (HE.out.up_ hb0)).out.mono ?_
      rintro e w1 ⟨rfl, hb1⟩
      have hbb : Below w.heap.size w w1 := hb0.trans (hb1.mono hb0.size)
      have hx1 := (Blk.new w 30 #[.int .i64 N, .slice A es.length c]).below hb1 (by simp)
      have c0 : w1.cell? ⟨w.heap.size, 0, none⟩ = some (.int .i64 N) := by rw [hx1.cell]; rfl
      have c1 : w1.cell? ⟨w.heap.size, 1, none⟩ = some (.slice A es.length c) := by rw [hx1.cell]; rfl
      clear hb0 hb1 hx1
      go_wp2
      go_ret
      exact ⟨rfl, hbb⟩
/-- the numbers of a list lie at the head of the block g, and may be written -/
structure Chips (w : World) (g : Nat) (l : List Int) : Prop where
  lt : g < w.heap.size
  cell : ∀ (i : Nat) (z : Int), l[i]? = some z → w.cell? ⟨g, i, none⟩ = some (.int .i64 z) ∧ w.frozen? ⟨g, i, none⟩ = false
section
variable {w w' : World} {g lo hi : Nat} {l : List Int}
theorem Chips.moves (h : Chips w g l) (m : Moves lo hi w w') (h1 : g < lo ∨ hi ≤ g) : Chips w' g l := by
  have hbl := m.block g h.lt h1
  exact ⟨Nat.lt_of_lt_of_le h.lt m.size, fun i z hz => ⟨(World.cell?_of_block (a := ⟨g, i, none⟩) hbl).trans (h.cell i z hz).1, (World.frozen?_of_block (a := ⟨g, i, none⟩) hbl).trans (h.cell i z hz).2⟩⟩
theorem Chips.below (h : Chips w g l) (hb : Below w.heap.size w w') : Chips w' g l := h.moves (belowMv hb 0) (.inr (Nat.zero_le _))
theorem Chips.set_ (h : Chips w g l) {a : Nat} (ha : a < l.length) (x : Int) : Chips (w.setCell ⟨g, a, none⟩ (.int .i64 x)) g (l.set a x) := by
  refine ⟨by simpa [World.setCell] using h.lt, fun i z hz => ?_⟩
  obtain ⟨h1, h2⟩ := h.cell a _ (List.getElem?_eq_getElem ha)
  by_cases e : i = a
  · subst e
    rw [List.getElem?_set_self ha] at hz
    injection hz with hz
    subst hz
    exact ⟨World.cell?_setCell_same _ _ _ h1, by rw [World.frozen?_setCell]; exact h2⟩
  · rw [List.getElem?_set_ne (Ne.symm e)] at hz
    obtain ⟨h3, h4⟩ := h.cell i z hz
    exact ⟨by rw [World.cell?_setCell_other _ _ _ _ (by simp only [ne_eq, Addr.mk.injEq]; omega)]; exact h3, by rw [World.frozen?_setCell]; exact h4⟩
theorem Chips.ints (h : Chips w g l) : IntS w w.heap.size (some ⟨g, 0, none⟩) l := fun _ => ⟨g, 0, rfl, h.lt, fun i z hz => by rw [Nat.zero_add]; exact (h.cell i z hz).1⟩
theorem Chips.own {base : Nat} (h : Chips w g l) (hg : base ≤ g) : OwnI w base (some ⟨g, 0, none⟩) l := fun _ => ⟨g, 0, rfl, hg, h.lt, fun i z hz => by rw [Nat.zero_add]; exact h.cell i z hz⟩
theorem Chips.of_own {base n : Nat} {v : Value} (h : w.ownsRow base 3 1 v n (intCells l)) (hn : 0 < n) : ∃ g c : Nat, v = .slice (some ⟨g, 0, none⟩) n c ∧ base ≤ g ∧ Chips w g l := by
  obtain ⟨hl, h⟩ := h
  rcases h with ⟨_, h0⟩ | ⟨g, cap, cur, hv, hb, hh, hnc, _, hcs, htk⟩
  · omega
  · have hblk : Blk w g 3 cur := hh
    refine ⟨g, cap, hv, hb, hblk.lt, fun i z hz => ⟨?_, hblk.frozen _⟩⟩
    have hi : i < l.length := (List.getElem?_eq_some_iff.1 hz).1
    have hln : l.length = n := by simpa [intCells] using hl
    rw [hblk.cell]
    have : (cur.toList.take (n * 1))[i]? = some (.int .i64 z) := by rw [htk]; simp [intCells, hz]
    rw [List.getElem?_take_of_lt (by omega)] at this
    simpa using this
end

/-- t chips from a to b -/
def Sent (w : World) (g M : Nat) (f : Nat → Int) (e : Ending) (w' : World) : Prop := e = .returned (.tuple #[]) ∧ Chips w' g (chipsOf M f) ∧ Moves g (g + 1) w w'
set_option maxHeartbeats 400000 in
theorem send_any (p g M cg a b : Nat) (n cA : Nat) (A : Option Addr) (f : Nat → Int) (t : Int) (w : World) (hpg : p ≠ g) (ha : a < M) (hb : b < M) (hB : Blk w p 68 #[.slice A n cA, .slice (some ⟨g, 0, none⟩) M cg]) (hC : Chips w g (chipsOf M f)) :
    Calls Try.prog 86 #[.pointer (some ⟨p, 0, none⟩), .int .i64 (a : Int), .int .i64 (b : Int), .int .i64 t] w (Sent w g M (addAt (addAt f a (-t)) b t)) := by
  have c1 : w.cell? ⟨p, 1, none⟩ = some (.slice (some ⟨g, 0, none⟩) M cg) := by rw [hB.cell]; rfl
  obtain ⟨d0, f0⟩ := hC.cell a _ (chipsOf_at f ha)
  have hx0 : wrap64 (wrap64 (f a) - t) = wrap64 (f a + -t) := by rw [wrap64_subL, Int.sub_eq_add_neg]
  have hC1 := hC.set_ (a := a) (by rw [chipsOf_len]; exact ha) (wrap64 (wrap64 (f a) - t))
  rw [chipsOf_set M f a _ (-t) hx0] at hC1
  obtain ⟨d1, f1⟩ := hC1.cell b _ (chipsOf_at _ hb)
  have hx1 : wrap64 (wrap64 (addAt f a (-t) b) + t) = wrap64 (addAt f a (-t) b + t) := wrap64_addL _ _
  have hC2 := hC1.set_ (a := b) (by rw [chipsOf_len]; exact hb) (wrap64 (wrap64 (addAt f a (-t) b) + t))
  rw [chipsOf_set M _ b _ t hx1] at hC2
  have hM2 := ((Moves.refl w g (g + 1)).set_ a (.int .i64 (wrap64 (wrap64 (f a) - t)))).set_ b (.int .i64 (wrap64 (wrap64 (addAt f a (-t) b) + t)))
  have HC2 := Lib.hid hC2
  have HM2 := Lib.hid hM2
  have ha0 : (0 : Int) ≤ (a : Int) := Int.natCast_nonneg _
  have hb0 : (0 : Int) ≤ (b : Int) := Int.natCast_nonneg _
  have ha1 : (a : Int) < (M : Int) := by omega
  have hb1 : (b : Int) < (M : Int) := by omega
  have hgp : g ≠ p := Ne.symm hpg
  clear hC hC1 hC2 hM2 hx0 hx1 hB
  go_enter Try.func86, Try.ntmps86
  go_wp2
  go_end0
  exact ⟨rfl, HC2.out, HM2.out⟩

set_option maxHeartbeats 1000000 in
theorem fire_any (p g M cg cA B : Nat) (A : Option Addr) (es : List (Int × Int)) (f : Nat → Int) (v t : Int) (w : World) (hpg : p ≠ g) (hBg : B ≤ g) (hBw : B ≤ w.heap.size) (hn : es.length ≤ 12) (hes : ∀ e ∈ es, 0 ≤ e.1 ∧ e.1 < e.2 ∧ e.2 < (M : Int))
    (hB : Blk w p 68 #[.slice A es.length cA, .slice (some ⟨g, 0, none⟩) M cg]) (hC : Chips w g (chipsOf M f)) (hE : EdgeS w B A es) :
    Calls Try.prog 81 #[.pointer (some ⟨p, 0, none⟩), .int .i64 v, .int .i64 t] w (Sent w g M (fireF f v t es)) := by
  have b0 : w.cell? ⟨p, 0, none⟩ = some (.slice A es.length cA) := by rw [hB.cell]; rfl
  have HB := Lib.hid hB
  have HE := Lib.hid hE
  have HS := Lib.hid hes
  have HC := Lib.hid hC
  have HI := Lib.hid hpg
  clear hB hE hes hC hpg
  go_enter Try.func81, Try.ntmps81
  go_wp2
  go_loopw [13] (fun i wr => ∃ k : Nat, k ≤ es.length ∧ i = .int .i64 k ∧ Chips wr g (chipsOf M (fireF f v t (es.take k))) ∧ Moves g (g + 1) w wr) (fun i _ => es.length - (intOf i).toNat)
  case atStart => exact ⟨0, Nat.zero_le _, rfl, by rw [List.take_zero, fireF_nil]; exact HC.out, Moves.refl _ _ _⟩
  case round =>
    obtain ⟨k, hk, rfl, hch, hmv⟩ := hrel
    have HK := Lib.hid hch
    have HM := Lib.hid hmv
    clear hch hmv b0
    by_cases hlt : k < es.length
    · obtain ⟨b1, o1, e, rfl, hb1, he, hc0, hc1⟩ := (HE.out.below (HM.out.below hBg hBw)).at_ hlt
      obtain ⟨h1, h2, h3⟩ := HS.out e (List.mem_of_getElem? he)
      have HFS := fun u => Lib.hid (fireF_step f v t he u)
      clear he
      obtain ⟨x, y⟩ := e
      simp only at h1 h2 h3 hc0 hc1 HFS
      obtain ⟨a, rfl⟩ : ∃ a : Nat, x = (a : Int) := ⟨x.toNat, by omega⟩
      obtain ⟨b, rfl⟩ : ∃ b : Nat, y = (b : Int) := ⟨y.toNat, by omega⟩
      have hi0 : (0 : Int) ≤ (k : Int) := Int.natCast_nonneg _
      have hi1 : (k : Int) < (es.length : Int) := by omega
      have ha : a < M := by omega
      have hb : b < M := by omega
      have hab : a ≠ b := by omega
      have HAB := Lib.hid hab
      have hmA : Moves g (g + 1) wr (wr.alloc (Obj.cells #[.int .i64 (a : Int), .int .i64 (b : Int)] 52)) := (Moves.refl _ _ _).alloc _
      have HCA := Lib.hid (HK.out.below ((Below.refl _ _).alloc (Nat.le_refl _) (Obj.cells #[.int .i64 (a : Int), .int .i64 (b : Int)] 52)))
      have HBA := Lib.hid ((HB.out.moves HM.out (by have := HI.out; omega)).moves hmA (by have := HI.out; omega))
      have HMA := Lib.hid (HM.out.trans hmA)
      clear hab hmA h1 h2 h3
      by_cases hv1 : v = (a : Int)
      · have t1 : (v == (a : Int)) = true := by simp [hv1]
        have HF : Hid (chipsOf M (addAt (addAt (fireF f v t (es.take k)) a (-t)) b t) = chipsOf M (fireF f v t (es.take (k + 1)))) := Lib.hid (chipsOf_eq fun u _ => by
          rw [send_f _ _ _ _ HAB.out, (HFS u).out, net_1 (v := v) (e := ((a : Int), (b : Int))) hv1])
        clear HFS hv1
        go_wp2_with fail
        refine (send_any p g M cg a b _ _ _ _ t _ HI.out ha hb HBA.out HCA.out).mono ?_
        rintro e w2 ⟨rfl, hc2, hm2⟩
        rw [HF.out] at hc2
        have HC2 := Lib.hid hc2
        have HM2 := Lib.hid (HMA.out.trans hm2)
        clear hc2 hm2
        go_wp2
        exact ⟨⟨k + 1, by omega, by go_num, HC2.out, HM2.out⟩, by simp [intOf]; omega⟩
      · have t1 : (v == (a : Int)) = false := by simp [hv1]
        by_cases hv2 : v = (b : Int)
        · have t2 : (v == (b : Int)) = true := by simp [hv2]
          have HF : Hid (chipsOf M (addAt (addAt (fireF f v t (es.take k)) b (-t)) a t) = chipsOf M (fireF f v t (es.take (k + 1)))) := Lib.hid (chipsOf_eq fun u _ => by
            rw [send_f _ _ _ _ (Ne.symm HAB.out), (HFS u).out, net_2 (v := v) (e := ((a : Int), (b : Int))) hv1 hv2])
          clear HFS hv1 hv2
          go_wp2_with fail
          refine (send_any p g M cg b a _ _ _ _ t _ HI.out hb ha HBA.out HCA.out).mono ?_
          rintro e w2 ⟨rfl, hc2, hm2⟩
          rw [HF.out] at hc2
          have HC2 := Lib.hid hc2
          have HM2 := Lib.hid (HMA.out.trans hm2)
          clear hc2 hm2
          go_wp2
          exact ⟨⟨k + 1, by omega, by go_num, HC2.out, HM2.out⟩, by simp [intOf]; omega⟩
        · have t2 : (v == (b : Int)) = false := by simp [hv2]
          have HF : Hid (chipsOf M (fireF f v t (es.take k)) = chipsOf M (fireF f v t (es.take (k + 1)))) := Lib.hid (chipsOf_eq fun u _ => by
            rw [(HFS u).out, net_0 (v := v) (e := ((a : Int), (b : Int))) hv1 hv2]; simp)
          clear HFS hv1 hv2
          have hcA := HCA.out
          rw [HF.out] at hcA
          have HCA2 := Lib.hid hcA
          clear hcA
          go_wp2
          exact ⟨⟨k + 1, by omega, by go_num, HCA2.out, HMA.out⟩, by simp [intOf]; omega⟩
    · have hK2 := HK.out
      rw [List.take_of_length_le (by omega)] at hK2
      have HK2 := Lib.hid hK2
      clear hK2
      go_wp2
      go_end0
      exact ⟨rfl, HK2.out, HM.out⟩
theorem own_moves {w w' : World} {base lo hi n : Nat} {t : TypeId} {v : Value} {xs : List Value} (h : w.ownsRow base t 1 v n xs) (m : Moves lo hi w w') (h1 : hi ≤ base) : w'.ownsRow base t 1 v n xs := by
  refine ⟨h.1, ?_⟩
  rcases h.2 with g | ⟨g, cap, cur, hv, hb, hh, rest⟩
  · exact .inl g
  · refine .inr ⟨g, cap, cur, hv, hb, ?_, rest⟩
    rw [m.block g (Array.getElem?_eq_some_iff.1 hh).1 (.inr (by omega))]
    exact hh
/-- the fire of the program: its box at pf, its heat at gh, its order behind base -/
structure Blaze (w : World) (B base pf gh ch pb M : Nat) (ord : List Int) (h : Nat → Int) : Prop where
  box : ∃ (O : Option Addr) (co : Nat), Blk w pf 92 #[.pointer (some ⟨pb, 0, none⟩), .slice O ord.length co, .slice (some ⟨gh, 0, none⟩) M ch] ∧ w.ownsRow base 3 1 (.slice O ord.length co) ord.length (intCells ord)
  heat : Chips w gh (chipsOf M h)
  lo1 : B ≤ gh
  lo2 : B ≤ pf
  lt1 : gh < base
  lt2 : pf < base
  ne : gh ≠ pf
  size : base ≤ w.heap.size
theorem Blaze.below {w w' : World} {B base pf gh ch pb M : Nat} {ord : List Int} {h : Nat → Int} (z : Blaze w B base pf gh ch pb M ord h) (hb : Below w.heap.size w w') : Blaze w' B base pf gh ch pb M ord h := by
  obtain ⟨O, co, h1, h2⟩ := z.box
  refine ⟨⟨O, co, h1.below hb h1.lt, ?_⟩, z.heat.below hb, z.lo1, z.lo2, z.lt1, z.lt2, z.ne, Nat.le_trans z.size hb.size⟩
  refine ⟨h2.1, ?_⟩
  rcases h2.2 with g | ⟨g, cap, cur, hv, hbb, hh, rest⟩
  · exact .inl g
  · refine .inr ⟨g, cap, cur, hv, hbb, ?_, rest⟩
    rw [hb.block g (Array.getElem?_eq_some_iff.1 hh).1]
    exact hh
theorem Blaze.drew {w : World} {B base pf gh ch pb M : Nat} {ord : List Int} {h : Nat → Int} (z : Blaze w B base pf gh ch pb M ord h) : Blaze w.drew B base pf gh ch pb M ord h := z.below (Below.refl _ _).drew
theorem Blaze.heat_set {w : World} {B base pf gh ch pb M : Nat} {ord : List Int} {h h2 : Nat → Int} (z : Blaze w B base pf gh ch pb M ord h) {a : Nat} {x : Int} (hc : Chips (w.setCell ⟨gh, a, none⟩ (.int .i64 x)) gh (chipsOf M h2)) : Blaze (w.setCell ⟨gh, a, none⟩ (.int .i64 x)) B base pf gh ch pb M ord h2 := by
  obtain ⟨O, co, h1, h3⟩ := z.box
  have hm : Moves gh (gh + 1) w (w.setCell ⟨gh, a, none⟩ (.int .i64 x)) := (Moves.refl w gh (gh + 1)).set_ a _
  exact ⟨⟨O, co, h1.moves hm (by have := z.ne; omega), own_moves h3 hm (by have := z.lt1; omega)⟩, hc, z.lo1, z.lo2, z.lt1, z.lt2, z.ne, by simpa [World.setCell] using z.size⟩
theorem Blaze.congr {w : World} {B base pf gh ch pb M : Nat} {ord : List Int} {h h2 : Nat → Int} (z : Blaze w B base pf gh ch pb M ord h) (e : ∀ u, h u = h2 u) : Blaze w B base pf gh ch pb M ord h2 := by
  rw [show h = h2 from funext e] at z
  exact z
theorem warm_add1 (h : Nat → Int) (v : Int) {es : List (Int × Int)} {k : Nat} {a b : Nat} (he : es[k]? = some ((a : Int), (b : Int))) (e : v = (a : Int)) (u : Nat) : addAt (fun u => h u + warms v u (es.take k)) b 1 u = h u + warms v u (es.take (k + 1)) := by
  rw [warms_snoc v u he, warm, if_pos e, addAt]
  unfold ind
  by_cases g : u = b
  · subst g
    rw [if_pos rfl, if_pos rfl]; omega
  · rw [if_neg g, if_neg (by omega)]; omega
theorem warm_add2 (h : Nat → Int) (v : Int) {es : List (Int × Int)} {k : Nat} {a b : Nat} (he : es[k]? = some ((a : Int), (b : Int))) (e1 : v ≠ (a : Int)) (e : v = (b : Int)) (u : Nat) : addAt (fun u => h u + warms v u (es.take k)) a 1 u = h u + warms v u (es.take (k + 1)) := by
  rw [warms_snoc v u he, warm, if_neg e1, if_pos e, addAt]
  unfold ind
  by_cases g : u = a
  · subst g
    rw [if_pos rfl, if_pos rfl]; omega
  · rw [if_neg g, if_neg (by omega)]; omega
theorem warm_add0 (h : Nat → Int) (v : Int) {es : List (Int × Int)} {k : Nat} {a b : Nat} (he : es[k]? = some ((a : Int), (b : Int))) (e1 : v ≠ (a : Int)) (e2 : v ≠ (b : Int)) (u : Nat) : h u + warms v u (es.take k) = h u + warms v u (es.take (k + 1)) := by
  rw [warms_snoc v u he, warm, if_neg e1, if_neg e2]; omega

set_option maxRecDepth 100000 in
set_option maxHeartbeats 4000000 in
theorem light_any (B base pf gh ch pb M cA : Nat) (A : Option Addr) (es : List (Int × Int)) (ord : List Int) (h : Nat → Int) (v : Nat) (G : Value) (w : World) (hn : es.length ≤ 12) (ho : ord.length ≤ 6) (hes : ∀ e ∈ es, 0 ≤ e.1 ∧ e.1 < e.2 ∧ e.2 < (M : Int))
    (hpb : pb < B) (hB : Blk w pb 68 #[.slice A es.length cA, G]) (hE : EdgeS w B A es) (hZ : Blaze w B base pf gh ch pb M ord h) :
    Calls Try.prog 82 #[.pointer (some ⟨pf, 0, none⟩), .int .i64 (v : Int)] w fun e w' => e = .returned (.tuple #[]) ∧ Blaze w' B base pf gh ch pb M (ord ++ [(v : Int)]) (fun u => h u + warms (v : Int) u es) ∧ Below B w w' := by
  obtain ⟨i0, hi, hz0, hz1, hz2⟩ := info_parts intInfo
  obtain ⟨O, co, hbx, hown⟩ := hZ.box
  have HB := Lib.hid hB
  have HE := Lib.hid hE
  have HES := Lib.hid hes
  have HZ := Lib.hid hZ
  have HO := Lib.hid hown
  have HX := Lib.hid hbx
  have hsz := hZ.size
  have hl1 := hZ.lo1
  have hl2 := hZ.lo2
  have hl3 := hZ.lt1
  have hl4 := hZ.lt2
  have hl5 := hZ.ne
  have q0 : w.cell? ⟨pf, 1, none⟩ = some (.slice O ord.length co) := by rw [hbx.cell]; rfl
  have hfz := hbx.frozen 1
  clear hB hE hes hZ hown hbx
  go_enter Try.func82, Try.ntmps82
  go_wp2_with (at_builtin; refine wpList_append_own _ rfl _ _ 26 rfl base 3 i0 (.int .i64 0) 1 8 Try.underlying26 hi hz0 hz1 hz2 rfl (by decide) _ _ _ rfl (own_moves HO.out ((belowMv ((Below.refl _ _).alloc (Nat.le_refl _) _) 0)) (Nat.zero_le _)) ⟨w.heap.size, 0, none⟩ 1 1 [.int .i64 (v : Int)] rfl rfl ?c1 ?c2 ?c3 ?c4 ?c5 ?_)
  case c1 => exact one_cell _ _ (by simp) _ _
  case c2 => simp [Value.oneCell']
  case c3 => unfold maxLen; omega
  case c4 => omega
  case c5 => simp; omega
  intro v' w1 hown' hgrow _
  have hown2 : w1.ownsRow base 3 1 v' (ord.length + 1) (intCells (ord ++ [(v : Int)])) := by rw [← cells_snoc]; exact hown'
  obtain ⟨A3, c3, hv3, hlen⟩ := own_slice hown2
  obtain ⟨n1, hn1⟩ : ∃ n1, n1 = (ord ++ [(v : Int)]).length := ⟨_, rfl⟩
  rw [← hn1] at hv3 hlen
  subst hv3
  have hb0 : Below B w (w.alloc (.cells #[.int .i64 (v : Int)] 3)) := (Below.refl _ _).alloc (by omega) _
  have hb1 : Below B w w1 := hb0.grown hgrow (by simp; omega) (fun q hq => by have := (HO.out.lt q hq).1; omega)
  have hs1 := hgrow.size
  rw [World.size_alloc] at hs1
  have hx1 := ((HX.out.alloc (.cells #[.int .i64 (v : Int)] 3)).grown hgrow (by
    intro hq
    have := (HO.out.lt pf hq).1
    omega))
  have hc1 : Chips w1 gh (chipsOf M h) := by
    have hq : w1.heap[gh]? = w.heap[gh]? := by
      rw [hgrow.block gh (by rw [World.size_alloc]; have := HZ.out.heat.lt; omega) (by
        intro hq
        have := (HO.out.lt gh hq.symm).1
        omega)]
      exact Below.heap_alloc w _ gh HZ.out.heat.lt
    have hz := HZ.out.heat
    exact ⟨by have := hz.lt; omega, fun i z hi => ⟨(World.cell?_of_block (a := ⟨gh, i, none⟩) hq).trans (hz.cell i z hi).1, (World.frozen?_of_block (a := ⟨gh, i, none⟩) hq).trans (hz.cell i z hi).2⟩⟩
  have q1 : w1.cell? ⟨pf, 1, none⟩ = some (.slice O ord.length co) := by rw [hx1.cell]; rfl
  have hf1 := hx1.frozen 1
  have hx2 := hx1.set_ 1 (.slice A3 n1 c3)
  have hmv : Moves pf (pf + 1) w1 (w1.setCell ⟨pf, 1, none⟩ (.slice A3 n1 c3)) := (Moves.refl w1 pf (pf + 1)).set_ 1 _
  have hz2 : Blaze (w1.setCell ⟨pf, 1, none⟩ (.slice A3 n1 c3)) B base pf gh ch pb M (ord ++ [(v : Int)]) h :=
    ⟨⟨A3, c3, by rw [← hn1]; exact hx2, by have := own_moves hown2 hmv (by omega); rw [hlen] at this; rw [← hn1]; exact this⟩, hc1.moves hmv (by omega), hl1, hl2, hl3, hl4, hl5, by simp [World.setCell]; omega⟩
  have hb2 : Below B w (w1.setCell ⟨pf, 1, none⟩ (.slice A3 n1 c3)) := hb1.setCell (p := ⟨pf, 1, none⟩) hl2 _
  obtain ⟨W1, hW1⟩ : ∃ X : World, X = w1.setCell ⟨pf, 1, none⟩ (.slice A3 n1 c3) := ⟨_, rfl⟩
  rw [← hW1] at hz2 hb2
  have HZ2 := Lib.hid hz2
  have HB2 := Lib.hid hb2
  have HB1 := Lib.hid (HB.out.below hb2 hpb)
  have HW1 := Lib.hid hW1
  have r0 : (w1.setCell ⟨pf, 1, none⟩ (.slice A3 n1 c3)).cell? ⟨pf, 0, none⟩ = some (.pointer (some ⟨pb, 0, none⟩)) := by
    rw [← HW1.out]
    obtain ⟨_, _, g, _⟩ := HZ2.out.box
    rw [g.cell]; rfl
  have r1 : (w1.setCell ⟨pf, 1, none⟩ (.slice A3 n1 c3)).cell? ⟨pb, 0, none⟩ = some (.slice A es.length cA) := by rw [← HW1.out, HB1.out.cell]; rfl
  clear hown' hown2 hgrow hx1 hx2 hc1 hmv hz2 hW1 hb0 hb1 hs1 q0 hlen hn1
  go_wp2
  go_loopw [24] (fun i wr => ∃ k : Nat, k ≤ es.length ∧ i = .int .i64 k ∧ Blaze wr B base pf gh ch pb M (ord ++ [(v : Int)]) (fun u => h u + warms (v : Int) u (es.take k)) ∧ Below B w wr) (fun i _ => es.length - (intOf i).toNat)
  case atStart => exact ⟨0, Nat.zero_le _, rfl, by rw [← HW1.out]; exact HZ2.out.congr (fun u => by simp [warms]), by rw [← HW1.out]; exact HB2.out⟩
  case round =>
    obtain ⟨k, hk, rfl, hzr, hbr⟩ := hrel
    have HZR := Lib.hid hzr
    have HBR := Lib.hid hbr
    clear hzr hbr r0 r1 q1 hf1
    by_cases hlt : k < es.length
    · obtain ⟨b1, o1, e, rfl, hb1, he, hc0, hc1⟩ := (HE.out.below HBR.out).at_ hlt
      obtain ⟨h1, h2, h3⟩ := HES.out e (List.mem_of_getElem? he)
      obtain ⟨x, y⟩ := e
      simp only at h1 h2 h3 hc0 hc1
      obtain ⟨a, rfl⟩ : ∃ a : Nat, x = (a : Int) := ⟨x.toNat, by omega⟩
      obtain ⟨b, rfl⟩ : ∃ b : Nat, y = (b : Int) := ⟨y.toNat, by omega⟩
      have hi0 : (0 : Int) ≤ (k : Int) := Int.natCast_nonneg _
      have hi1 : (k : Int) < (es.length : Int) := by omega
      have ha : a < M := by omega
      have hb : b < M := by omega
      have ha0 : (0 : Int) ≤ (a : Int) := Int.natCast_nonneg _
      have hb0 : (0 : Int) ≤ (b : Int) := Int.natCast_nonneg _
      have ha1 : (a : Int) < (M : Int) := by omega
      have hb1 : (b : Int) < (M : Int) := by omega
      have hsw : B ≤ wr.heap.size := by have := HZR.out.size; have := HZR.out.lt1; omega
      have hbA : Below wr.heap.size wr (wr.alloc (Obj.cells #[.int .i64 (a : Int), .int .i64 (b : Int)] 52)) := (Below.refl _ _).alloc (Nat.le_refl _) _
      have hZA := HZR.out.below hbA
      have hBA : Below B w (wr.alloc (Obj.cells #[.int .i64 (a : Int), .int .i64 (b : Int)] 52)) := HBR.out.alloc hsw _
      have hEA := Blk.new wr 52 #[.int .i64 (a : Int), .int .i64 (b : Int)]
      obtain ⟨Or, cr, hxr, _⟩ := hZA.box
      have p0 : (wr.alloc (Obj.cells #[.int .i64 (a : Int), .int .i64 (b : Int)] 52)).cell? ⟨pf, 2, none⟩ = some (.slice (some ⟨gh, 0, none⟩) M ch) := by rw [hxr.cell]; rfl
      have HE0 := Lib.hid he
      have HZA := Lib.hid hZA
      have HBA := Lib.hid hBA
      clear he hxr hZA hBA hbA hEA h1 h2 h3
      by_cases hv1 : (v : Int) = (a : Int)
      · have t1 : ((v : Int) == (a : Int)) = true := by simp [hv1]
        obtain ⟨d0, f0⟩ := HZA.out.heat.cell b _ (chipsOf_at _ hb)
        have hc := HZA.out.heat.set_ (a := b) (by rw [chipsOf_len]; exact hb) (wrap64 (wrap64 (h b + warms (v : Int) b (es.take k)) + 1))
        rw [chipsOf_set M _ b _ 1 (wrap64_addL _ _)] at hc
        have HZN := Lib.hid (((HZA.out.heat_set hc).congr (warm_add1 h (v : Int) HE0.out hv1)))
        have HBN := Lib.hid (HBA.out.setCell (p := ⟨gh, b, none⟩) hl1 (.int .i64 (wrap64 (wrap64 (h b + warms (v : Int) b (es.take k)) + 1))))
        clear hc hv1
        go_wp2_with fail
        go_region
        go_wp2
        exact ⟨⟨k + 1, by omega, by go_num, HZN.out.drew, HBN.out.drew⟩, by simp [intOf]; omega⟩
      · have t1 : ((v : Int) == (a : Int)) = false := by simp; omega
        by_cases hv2 : (v : Int) = (b : Int)
        · have t2 : ((v : Int) == (b : Int)) = true := by simp [hv2]
          obtain ⟨d0, f0⟩ := HZA.out.heat.cell a _ (chipsOf_at _ ha)
          have hc := HZA.out.heat.set_ (a := a) (by rw [chipsOf_len]; exact ha) (wrap64 (wrap64 (h a + warms (v : Int) a (es.take k)) + 1))
          rw [chipsOf_set M _ a _ 1 (wrap64_addL _ _)] at hc
          have HZN := Lib.hid (((HZA.out.heat_set hc).congr (warm_add2 h (v : Int) HE0.out hv1 hv2)))
          have HBN := Lib.hid (HBA.out.setCell (p := ⟨gh, a, none⟩) hl1 (.int .i64 (wrap64 (wrap64 (h a + warms (v : Int) a (es.take k)) + 1))))
          clear hc hv1 hv2
          go_wp2_with fail
          go_region
          go_wp2
          exact ⟨⟨k + 1, by omega, by go_num, HZN.out.drew, HBN.out.drew⟩, by simp [intOf]; omega⟩
        · have t2 : ((v : Int) == (b : Int)) = false := by simp; omega
          have HZN := Lib.hid (HZA.out.congr (warm_add0 h (v : Int) HE0.out hv1 hv2))
          clear hv1 hv2
          go_wp2
          exact ⟨⟨k + 1, by omega, by go_num, HZN.out, HBA.out⟩, by simp [intOf]; omega⟩
    · have hz := HZR.out
      rw [List.take_of_length_le (by omega)] at hz
      have HZN := Lib.hid hz
      clear hz
      go_wp2
      go_end0
      exact ⟨rfl, HZN.out, HBR.out⟩
/-- whether v burns -/
theorem inL_contains (l : List Int) (v : Int) : l.contains v = inL l v := by simp [inL]
set_option maxHeartbeats 1000000 in
theorem burns_any (B base pf gh ch pb M : Nat) (ord : List Int) (h : Nat → Int) (v : Int) (w : World) (ho : ord.length ≤ 6) (h0 : 0 < ord.length) (hZ : Blaze w B base pf gh ch pb M ord h) :
    Calls Try.prog 84 #[.pointer (some ⟨pf, 0, none⟩), .int .i64 v] w fun e w' => e = .returned (.bool (inL ord v)) ∧ w' = w := by
  obtain ⟨O, co, hbx, hown⟩ := hZ.box
  have q1 : w.cell? ⟨pf, 1, none⟩ = some (.slice O ord.length co) := by rw [hbx.cell]; rfl
  obtain ⟨bO, oO, rfl, _, hc⟩ := (OwnI.of_own hown).ints h0
  have HC := Lib.hid (show Calls Try.prog 60 #[.slice (some ⟨bO, oO, none⟩) ord.length co, .int .i64 v] w fun e w' => e = .returned (.bool (inL ord v)) ∧ w' = w by
    have := Try.slices_Contains_int bO oO ord.length co ord v w (Nat.le_refl _) (by omega) (fun j hj => by rw [hc j ord[j] (List.getElem?_eq_getElem hj)]; simp [List.getD, List.getElem?_eq_getElem hj])
    rw [List.take_length, inL_contains] at this
    exact this)
  clear hZ hbx hown hc
  go_enter Try.func84, Try.ntmps84
  go_wp2_with fail
  refine HC.out.mono ?_
  rintro e w' ⟨rfl, rfl⟩
  go_wp2
  go_ret
  exact ⟨rfl, rfl⟩
/-- what the fire asks of a vertex -/
def catchH (d : List Int) (h : Nat → Int) (ord : List Int) (v : Nat) : Bool := decide (d.getD v 0 < h v) && !inL ord (v : Int)
set_option maxHeartbeats 1000000 in
theorem catches_any (B base pf gh ch pb M g cg : Nat) (E : Value) (d ord : List Int) (h : Nat → Int) (v : Nat) (w : World) (hv : v < M) (hd : d.length = M) (ho : ord.length ≤ 6) (h0 : 0 < ord.length) (hw : ∀ u, u < M → wrap64 (h u) = h u)
    (hB : Blk w pb 68 #[E, .slice (some ⟨g, 0, none⟩) M cg]) (hC : Chips w g d) (hZ : Blaze w B base pf gh ch pb M ord h) :
    Calls Try.prog 83 #[.pointer (some ⟨pf, 0, none⟩), .int .i64 (v : Int)] w fun e w' => e = .returned (.bool (catchH d h ord v)) ∧ Below w.heap.size w w' := by
  obtain ⟨O, co, hbx, hown⟩ := hZ.box
  have q0 : w.cell? ⟨pf, 0, none⟩ = some (.pointer (some ⟨pb, 0, none⟩)) := by rw [hbx.cell]; rfl
  have q2 : w.cell? ⟨pf, 2, none⟩ = some (.slice (some ⟨gh, 0, none⟩) M ch) := by rw [hbx.cell]; rfl
  have q3 : w.cell? ⟨pb, 1, none⟩ = some (.slice (some ⟨g, 0, none⟩) M cg) := by rw [hB.cell]; rfl
  have q4 : w.cell? ⟨gh, v, none⟩ = some (.int .i64 (h v)) := by rw [(hZ.heat.cell v _ (chipsOf_at _ hv)).1, hw v hv]
  have hvd : v < d.length := by omega
  obtain ⟨x, hx⟩ : ∃ x, x = d.getD v 0 := ⟨_, rfl⟩
  have q5 : w.cell? ⟨g, v, none⟩ = some (.int .i64 x) := by rw [(hC.cell v _ (List.getElem?_eq_getElem hvd)).1, hx]; simp [List.getD, List.getElem?_eq_getElem hvd]
  have hv0 : (0 : Int) ≤ (v : Int) := Int.natCast_nonneg _
  have hv1 : (v : Int) < (M : Int) := by omega
  have HB := fun w' hb => Lib.hid (burns_any B base pf gh ch pb M ord h (v : Int) w' ho h0 (hZ.below hb))
  rw [catchH, ← hx]
  obtain ⟨y, hy⟩ : ∃ y, y = h v := ⟨_, rfl⟩
  rw [← hy] at q4 ⊢
  obtain ⟨bb, hbb⟩ : ∃ b, b = inL ord (v : Int) := ⟨_, rfl⟩
  rw [← hbb] at HB ⊢
  clear hx hy hbb hbx hown hZ hC hB hw hvd
  by_cases hl : x < y
  · have t1 : decide (x < y) = true := decide_eq_true hl
    go_enter Try.func83, Try.ntmps83
    go_wp2_with fail
    go_quiet (first | (go_at_call 84; exact Calls.quiet_of_same (HB _ (below_drewN (Below.refl _ _) _)).out))
    go_wp2
    go_ret
    exact ⟨ret_boolE (by simp [t1]), below_drewN (Below.refl _ _) _⟩
  · have t1 : decide (x < y) = false := decide_eq_false hl
    go_enter Try.func83, Try.ntmps83
    go_wp2_with fail
    go_quiet (fail)
    go_wp2
    go_ret
    exact ⟨ret_boolE (by simp [t1]), below_drewN (Below.refl _ _) _⟩
theorem Chips.of_blk {w : World} {g : Nat} {t : TypeId} {l : List Int} (h : Blk w g t (intCells l).toArray) : Chips w g l := ⟨h.lt, fun i z hz => ⟨by rw [h.cell]; simp [intCells, hz], h.frozen _⟩⟩
theorem chips_zero (M : Nat) : intCells (List.replicate M 0) = intCells (chipsOf M fun _ => 0) := by
  apply List.ext_getElem?
  intro u
  by_cases h : u < M
  · simp [intCells, chipsOf, h]
    exact (wrap64_of (by omega) (by omega)).symm
  · rw [List.getElem?_eq_none (by simp [intCells]; omega), List.getElem?_eq_none (by simp [intCells, chipsOf_len]; omega)]
/-- the heat of a fire that burns in the vertices of ord -/
def HeatIs (es : List (Int × Int)) (ord : List Int) (h : Nat → Int) : Prop := ∀ u, h u = heat (inL ord) u es
theorem HeatIs.push {es : List (Int × Int)} {ord : List Int} {h : Nat → Int} {v : Nat} (hh : HeatIs es ord h) (hn : ¬ (v : Int) ∈ ord) (hes : ∀ e ∈ es, e.1 < e.2) : HeatIs es (ord ++ [(v : Int)]) (fun u => h u + warms (v : Int) u es) := fun u => by
  show h u + warms (v : Int) u es = _
  rw [inL_snoc, heat_light (inL ord) (v : Int) (by simp [inL, hn]) u es hes, hh u]
theorem HeatIs.nil (es : List (Int × Int)) : HeatIs es [] (fun _ => 0) := fun u => (heat_none (fun x => by simp [inL]) u es).symm
theorem HeatIs.catch_ {es : List (Int × Int)} {d ord : List Int} {h : Nat → Int} (hh : HeatIs es ord h) (v : Nat) : catchH d h ord v = catchV es d ord v := by rw [catchH, catchV, hh v]
theorem HeatIs.wrap_ {es : List (Int × Int)} {ord : List Int} {h : Nat → Int} (hh : HeatIs es ord h) (hn : es.length ≤ 12) (u : Nat) : wrap64 (h u) = h u := by
  have := heat_lo (inL ord) u es
  rw [hh u]
  exact wrap64_of (by omega) (by omega)
/-- a fire that has burnt out -/
def GivesFire (w : World) (M : Nat) (es : List (Int × Int)) (d : List Int) (q : Int) (pb : Nat) (e : Ending) (w' : World) : Prop :=
  ∃ (base pf gh ch : Nat) (h : Nat → Int), e = .returned (.pointer (some ⟨pf, 0, none⟩)) ∧ Blaze w' w.heap.size base pf gh ch pb M (burntL M es d q) h ∧ HeatIs es (burntL M es d q) h ∧ Below w.heap.size w w'
set_option maxRecDepth 100000 in
set_option maxHeartbeats 4000000 in
theorem burn_any (pb g cg cA M q : Nat) (A : Option Addr) (es : List (Int × Int)) (d : List Int) (w : World) (hM0 : 0 < M) (hM : M ≤ 6) (hq : q < M) (hd : d.length = M) (hn : es.length ≤ 12) (hes : ∀ e ∈ es, 0 ≤ e.1 ∧ e.1 < e.2 ∧ e.2 < (M : Int))
    (hpb : pb < w.heap.size) (hB : Blk w pb 68 #[.slice A es.length cA, .slice (some ⟨g, 0, none⟩) M cg]) (hC : Chips w g d) (hE : EdgeS w w.heap.size A es) :
    Calls Try.prog 72 #[.pointer (some ⟨pb, 0, none⟩), .int .i64 (q : Int)] w (GivesFire w M es d (q : Int) pb) := by
  have hmk := make_ints M (by omega)
  have q0 : w.cell? ⟨pb, 1, none⟩ = some (.slice (some ⟨g, 0, none⟩) M cg) := by rw [hB.cell]; rfl
  have hgl := hC.lt
  have HB := Lib.hid hB
  have HC := Lib.hid hC
  have HE := Lib.hid hE
  have HES := Lib.hid hes
  have HD := Lib.hid hd
  have hM1 : (0 : Int) ≤ (M : Int) := Int.natCast_nonneg _
  -- the new fire
  obtain ⟨W0, hW0⟩ : ∃ X : World, X = (w.alloc (.cells (intCells (List.replicate M 0)).toArray 3)).alloc (.cells #[.pointer (some ⟨pb, 0, none⟩), .slice none 0 0, .slice (some ⟨w.heap.size, 0, none⟩) M M] 92) := ⟨_, rfl⟩
  have hb0 : Below w.heap.size w W0 := by rw [hW0]; exact ((Below.refl _ _).alloc (Nat.le_refl _) _).alloc (by simp) _
  have hz0 : Blaze W0 w.heap.size (w.heap.size + 2) (w.heap.size + 1) w.heap.size M pb M [] (fun _ => 0) := by
    have h1 := Blk.new w 3 (intCells (List.replicate M 0)).toArray
    rw [chips_zero] at h1
    have h2 := Blk.new (w.alloc (.cells (intCells (List.replicate M 0)).toArray 3)) 92 #[.pointer (some ⟨pb, 0, none⟩), .slice none 0 0, .slice (some ⟨w.heap.size, 0, none⟩) M M]
    rw [World.size_alloc, ← hW0] at h2
    refine ⟨⟨none, 0, h2, ⟨rfl, .inl ⟨rfl, rfl⟩⟩⟩, ?_, Nat.le_refl _, by omega, by omega, by omega, by omega, by rw [hW0]; simp⟩
    rw [hW0, chips_zero]
    exact (Chips.of_blk h1).below ((Below.refl _ _).alloc (Nat.le_refl _) _)
  have HZ0 := Lib.hid hz0
  have HB0 := Lib.hid hb0
  have HW0 := Lib.hid hW0
  have LT := fun (ord : List Int) (h : Nat → Int) (v : Nat) (w' : World) (ho : ord.length ≤ 6) (hb : Below w.heap.size w w') (hz : Blaze w' w.heap.size (w.heap.size + 2) (w.heap.size + 1) w.heap.size M pb M ord h) =>
    Lib.hid (light_any w.heap.size (w.heap.size + 2) (w.heap.size + 1) w.heap.size M pb M cA A es ord h v (.slice (some ⟨g, 0, none⟩) M cg) w' hn ho hes hpb (hB.below hb hpb) (hE.below hb) hz)
  have CT := fun (ord : List Int) (h : Nat → Int) (v : Nat) (w' : World) (hv : v < M) (ho : ord.length ≤ 6) (h0 : 0 < ord.length) (hh : HeatIs es ord h) (hb : Below w.heap.size w w') (hz : Blaze w' w.heap.size (w.heap.size + 2) (w.heap.size + 1) w.heap.size M pb M ord h) =>
    Lib.hid (catches_any w.heap.size (w.heap.size + 2) (w.heap.size + 1) w.heap.size M pb M g cg (.slice A es.length cA) d ord h v w' hv hd ho h0 (fun u _ => hh.wrap_ hn u) (hB.below hb hpb) (hC.below hb) hz)
  clear hB hC hE hes hd hz0 hb0 hW0
  go_enter Try.func72, Try.ntmps72
  go_wp2_with fail
  go_step3
  go_wp2_with fail
  rw [← HW0.out]
  refine (LT [] (fun _ => 0) q W0 (by simp) HB0.out HZ0.out).out.mono ?_
  rintro e w1 ⟨rfl, hz1, hb1⟩
  have HI1 : Hid (BurnI M es d (q : Int) [(q : Int)]) := Lib.hid (BurnI.start (by omega))
  have HH1 := Lib.hid ((HeatIs.nil es).push (v := q) (by simp) (fun e he => (HES.out e he).2.1))
  have HZ1 := Lib.hid hz1
  have HB1 := Lib.hid (HB0.out.trans hb1)
  clear hz1 hb1 HZ0 HB0 HW0 hmk q0
  go_wp2
  go_step3
  go_wp2
  go_loopg [6] (M - 1) (fun gk _ wr => ∃ (ord : List Int) (h : Nat → Int), Hid (gk + ord.length = M) ∧ Hid (BurnI M es d (q : Int) ord) ∧ Hid (HeatIs es ord h) ∧ Hid (Blaze wr w.heap.size (w.heap.size + 2) (w.heap.size + 1) w.heap.size M pb M ord h) ∧ Hid (Below w.heap.size w wr))
  case atStart => exact ⟨_, _, Lib.hid (by simp; omega), HI1, HH1, HZ1, HB1⟩
  case round =>
    obtain ⟨ord, h, HG, HI, HH, HZ, HBw⟩ := hrel
    clear HI1 HH1 HZ1 HB1
    have hlM := HI.out.toBurns.len
    have hl0 : 0 < ord.length := List.length_pos_of_mem HI.out.toBurns.first
    have hl6 : ord.length ≤ 6 := by omega
    obtain ⟨gx, rfl⟩ : ∃ gx : Nat, gx = gk := ⟨_, rfl⟩
    obtain ⟨wo, rfl⟩ : ∃ wo : World, wo = wr := ⟨_, rfl⟩
    go_wp2
    go_loopg [6] M (fun gj i wx => ∃ v : Nat, v < M ∧ gj + v = M ∧ i = .int .i64 v ∧ Hid (∀ j, j < v → catchV es d ord j = false) ∧ Hid (Blaze wx w.heap.size (w.heap.size + 2) (w.heap.size + 1) w.heap.size M pb M ord h) ∧ Hid (Below w.heap.size w wx))
    case atStart => exact ⟨0, hM0, by omega, rfl, Lib.hid (fun j hj => absurd hj (by omega)), HZ, HBw⟩
    case round =>
      obtain ⟨v, hv, hgv, rfl, HN, HZ2, HB2⟩ := hrel
      have hv0 : (0 : Int) ≤ (v : Int) := Int.natCast_nonneg _
      have hv1 : (v : Int) < 6 := by omega
      have HCT := CT ord h v wr hv hl6 hl0 HH.out HB2.out HZ2.out
      have hcc := HH.out.catch_ (d := d) v
      rw [hcc] at HCT
      clear hcc
      cases hcv : catchV es d ord v with
      | true =>
        rw [hcv] at HCT
        have HNX := Lib.hid (nextV_some hv hcv HN.out)
        have HNV := Lib.hid (catchV_iff.1 hcv).2
        clear hcv
        go_wp2_with fail
        refine HCT.out.mono ?_
        rintro e w2 ⟨rfl, hb2⟩
        have HZ3 := Lib.hid (HZ2.out.below hb2)
        have HB3 := Lib.hid (HB2.out.trans (hb2.mono HB2.out.size))
        clear hb2
        go_wp2_with fail
        refine (LT ord h v w2 hl6 HB3.out HZ3.out).out.mono ?_
        rintro e w3 ⟨rfl, hz3, hb3⟩
        have HZ4 := Lib.hid hz3
        have HB4 := Lib.hid (HB3.out.trans hb3)
        have HI4 := Lib.hid (HI.out.push HNX.out)
        have HH4 := Lib.hid (HH.out.push HNV.out (fun e he => (HES.out e he).2.1))
        have hlt := HI.out.toBurns.len_lt hv HNV.out
        clear hz3 hb3
        go_wp2
        go_roundg (gx - 1)
        case measure => have := HG.out; omega
        case rel => exact ⟨_, _, Lib.hid (by have := HG.out; simp; omega), HI4, HH4, HZ4, HB4⟩
      | false =>
        rw [hcv] at HCT
        have HN2 : Hid (∀ j, j < v + 1 → catchV es d ord j = false) := Lib.hid (fun j hj => by
          rcases Nat.lt_or_ge j v with g | g
          · exact HN.out j g
          · rw [show j = v by omega]; exact hcv)
        clear hcv
        go_wp2_with fail
        refine HCT.out.mono ?_
        rintro e w2 ⟨rfl, hb2⟩
        have q2 : w2.cell? ⟨pb, 1, none⟩ = some (.slice (some ⟨g, 0, none⟩) M cg) := by
          have := HB.out.below (HB2.out.trans (hb2.mono HB2.out.size)) hpb
          rw [this.cell]; rfl
        have HZ3 := Lib.hid (HZ2.out.below hb2)
        have HB3 := Lib.hid (HB2.out.trans (hb2.mono HB2.out.size))
        clear hb2
        by_cases he : v + 1 = M
        · have t1 : ((v : Int) + 1 == (M : Int)) = true := by rw [beq_iff_eq]; omega
          have HND := Lib.hid (HI.out.done (nextV_none fun j hj => HN2.out j (by omega)))
          clear he
          go_wp2
          try rw [Exit.noGoto_ret]
          go_ret
          have hz := HZ3.out
          have hh := HH.out
          rw [HND.out] at hz hh
          exact ⟨_, _, _, _, h, rfl, hz, hh, HB3.out⟩
        · have t1 : ((v : Int) + 1 == (M : Int)) = false := by rw [beq_eq_false_iff_ne]; omega
          have HV2 := Lib.hid (show v + 1 < M by omega)
          clear he
          go_wp2
          go_roundg (gk - 1)
          case measure => omega
          case rel => exact ⟨v + 1, HV2.out, by omega, by go_num, HN2, HZ3, HB3⟩
theorem boolInfo : (Try.prog.info? 4).map (fun i => (i.zero, i.size, i.bytes)) = some (some (.bool false), 1, 1) := by kernel_rfl
theorem made_bools (n : Nat) : madeCells (Value.bool false).cells (n * 1) = (List.replicate n (Value.bool false)).toArray := by
  apply Array.ext
  · simp [madeCells]
  · intro i h1 h2
    simp only [madeCells, Array.getElem_map, Array.getElem_range, List.getElem_toArray, List.getElem_replicate]
    show (#[Value.bool false] : Array Value)[i % 1]! = _
    rw [Nat.mod_one]
    rfl
theorem make_bools (n : Nat) (hn : n ≤ 1048576) (w : World) : (Instr.makeSlice 88 (.int .i64 (n : Int)) (.int .i64 (n : Int))).run Try.prog w =
    .ok (.slice (some ⟨w.heap.size, 0, none⟩) n n) (w.alloc (.cells (List.replicate n (Value.bool false)).toArray 4)) := by
  obtain ⟨i0, hi, hx⟩ := Option.map_eq_some_iff.1 boolInfo
  simp only [Prod.mk.injEq] at hx
  obtain ⟨hz0, hz1, hz2⟩ := hx
  have hr := run_make (P := Try.prog) w 88 4 i0 _ Try.underlying88 hi hz0 .i64 .i64 n n (by omega) (by omega) (by rw [hz2]; omega) (by omega)
  rw [hz1] at hr
  simp only [Int.toNat_natCast] at hr
  rw [made_bools] at hr
  exact hr
def burntM (M : Nat) (ord : List Int) : List Value := (List.range M).map fun (v : Nat) => Value.bool (inL ord (v : Int))
theorem burntM_nil (M : Nat) : List.replicate M (Value.bool false) = burntM M [] := by
  apply List.ext_getElem?
  intro u
  by_cases h : u < M
  · simp [burntM, h, inL]
  · rw [List.getElem?_eq_none (by simp; omega), List.getElem?_eq_none (by simp [burntM]; omega)]
theorem burntM_at {M u : Nat} (ord : List Int) (h : u < M) : (burntM M ord)[u]? = some (.bool (inL ord (u : Int))) := by simp [burntM, h]
theorem burntM_set (M u : Nat) (ord : List Int) : (burntM M ord).set u (.bool true) = burntM M (ord ++ [(u : Int)]) := by
  apply List.ext_getElem?
  intro i
  by_cases hi : i < M
  · rw [burntM_at _ hi]
    by_cases e : i = u
    · subst e
      rw [List.getElem?_set_self (by simp [burntM]; exact hi)]
      simp [inL]
    · rw [List.getElem?_set_ne (Ne.symm e), burntM_at _ hi]
      have : ¬ ((i : Int) = (u : Int)) := by omega
      simp [inL, this]
  · rw [List.getElem?_eq_none (by simp [burntM]; omega), List.getElem?_eq_none (by simp [burntM]; omega)]
theorem own_ne {w : World} {base n b : Nat} {v : Value} {xs : List Value} {cs : Array Value} (h : w.ownsRow base 3 1 v n xs) (hb : Blk w b 4 cs) : v.ownBlock ≠ some b := by
  intro he
  rcases h.2 with ⟨rfl, _⟩ | ⟨g, cap, cur, rfl, _, hg, _⟩
  · simp [Value.ownBlock] at he
  · simp only [Value.ownBlock, Option.some.injEq] at he
    subst he
    have h2 : w.heap[g]? = some (.cells cs 4 (0, 0)) := hb
    rw [hg] at h2
    simp at h2
theorem own_keep {w w' : World} {base n : Nat} {t : TypeId} {v : Value} {xs : List Value} (h : w.ownsRow base t 1 v n xs) (hk : ∀ g, v.ownBlock = some g → w'.heap[g]? = w.heap[g]?) : w'.ownsRow base t 1 v n xs := by
  refine ⟨h.1, ?_⟩
  rcases h.2 with g | ⟨g, cap, cur, hv, hb, hh, rest⟩
  · exact .inl g
  · refine .inr ⟨g, cap, cur, hv, hb, ?_, rest⟩
    rw [hk g (by rw [hv]; rfl)]
    exact hh
theorem own_below {w w' : World} {base n : Nat} {t : TypeId} {v : Value} {xs : List Value} (h : w.ownsRow base t 1 v n xs) (hb : Below w.heap.size w w') : w'.ownsRow base t 1 v n xs := own_moves h (belowMv hb 0) (Nat.zero_le _)
/-- what the burning of the specification holds -/
structure BurnW (w wr : World) (M : Nat) (A : Option Addr) (c : Nat) (es : List (Int × Int)) (v : Value) (ord : List Int) : Prop where
  box : Blk wr w.heap.size 30 #[.int .i64 (M : Int), .slice A es.length c]
  own : wr.ownsRow (w.heap.size + 1) 3 1 v ord.length (intCells ord)
  marks : Blk wr (w.heap.size + 1 + 1) 4 (burntM M ord).toArray
  old : Below w.heap.size w wr
theorem BurnW.next {w wr w2 : World} {M : Nat} {A : Option Addr} {c : Nat} {es : List (Int × Int)} {v : Value} {ord : List Int} (h : BurnW w wr M A c es v ord) (hb : Below wr.heap.size wr w2) : BurnW w w2 M A c es v ord :=
  ⟨h.box.below hb h.box.lt, own_below h.own hb, h.marks.below hb h.marks.lt, h.old.trans (hb.mono h.old.size)⟩
theorem warms_count (a b : Int) (hab : a ≠ b) (u : Nat) (hu : (u : Int) = a) : ∀ es : List (Int × Int), (∀ e ∈ es, e.1 < e.2) → warms b u es = (es.count (min a b, max a b) : Int)
  | [], _ => by simp [warms]
  | e :: l, h => by
    have h1 := h e (by simp)
    rw [warms, warms_count a b hab u hu l (fun x hx => h x (by simp [hx])), List.count_cons]
    have key : warm b u e = if e == (min a b, max a b) then 1 else 0 := by
      obtain ⟨x, y⟩ := e
      simp only at h1
      unfold warm ind
      rw [hu]
      by_cases g1 : b = x
      · subst g1
        rw [if_pos rfl]
        by_cases g2 : a = y
        · subst g2
          rw [if_pos rfl, Int.min_eq_right (by omega), Int.max_eq_left (by omega)]
          simp
        · rw [if_neg g2]
          have : ¬ ((b, y) == (min a b, max a b)) = true := by
            simp only [beq_iff_eq, Prod.mk.injEq]
            omega
          rw [if_neg this]
      · rw [if_neg g1]
        by_cases g2 : b = y
        · subst g2
          rw [if_pos rfl]
          by_cases g3 : a = x
          · subst g3
            rw [if_pos rfl, Int.min_eq_left (by omega), Int.max_eq_right (by omega)]
            simp
          · rw [if_neg g3]
            have : ¬ ((x, b) == (min a b, max a b)) = true := by
              simp only [beq_iff_eq, Prod.mk.injEq]
              omega
            rw [if_neg this]
        · rw [if_neg g2]
          have : ¬ ((x, y) == (min a b, max a b)) = true := by
            simp only [beq_iff_eq, Prod.mk.injEq]
            omega
          rw [if_neg this]
    rw [key]
    split <;> simp <;> omega
theorem warms_self (u : Nat) : ∀ es : List (Int × Int), (∀ e ∈ es, e.1 < e.2) → warms (u : Int) u es = 0
  | [], _ => rfl
  | e :: l, h => by
    have h1 := h e (by simp)
    rw [warms, warms_self u l (fun x hx => h x (by simp [hx]))]
    unfold warm ind
    repeat' split
    all_goals omega
theorem multB_warms {M u k : Nat} {es : List (Int × Int)} (hu : u < M) (hk : k < M) (h : ∀ e ∈ es, e.1 < e.2) : multB (M : Int) es (u : Int) (k : Int) = warms (k : Int) u es := by
  by_cases e : u = k
  · subst e
    rw [multB_no (.inr (.inr rfl)), warms_self u es h]
  · rw [multB_yes (vB_t (by omega)) (vB_t (by omega)) (by omega), warms_count (u : Int) (k : Int) (by omega) u rfl es h]
theorem sumH_lo (es : List (Int × Int)) (p : Int → Bool) (u : Nat) (h : ∀ e ∈ es, 0 ≤ e.1 ∧ e.1 < e.2) (k : Nat) : 0 ≤ sumH es p u k ∧ sumH es p u k ≤ 2 * es.length := by
  rw [sumH_eq es p u h k]
  exact heat_lo _ _ _
/-- the least vertex above z that catches fire, or -1 -/
def Above (M : Nat) (es : List (Int × Int)) (d ord : List Int) (z nx : Int) : Prop :=
  (nx = -1 ∧ ∀ j : Nat, j < M → z < (j : Int) → catchV es d ord j = false) ∨ (∃ j0 : Nat, nx = (j0 : Int) ∧ j0 < M ∧ z < (j0 : Int) ∧ catchV es d ord j0 = true ∧ ∀ j : Nat, j < j0 → z < (j : Int) → catchV es d ord j = false)
theorem Above.start (M : Nat) (es : List (Int × Int)) (d ord : List Int) : Above M es d ord ((M : Int) - 1) (-1) := .inl ⟨rfl, fun j hj h => by omega⟩
theorem Above.miss {M : Nat} {es : List (Int × Int)} {d ord : List Int} {v : Nat} {nx : Int} (h : Above M es d ord (v : Int) nx) (hc : catchV es d ord v = false) : Above M es d ord ((v : Int) - 1) nx := by
  rcases h with ⟨h1, h2⟩ | ⟨j0, h1, h2, h3, h4, h5⟩
  · refine .inl ⟨h1, fun j hj hz => ?_⟩
    by_cases e : j = v
    · rw [e]; exact hc
    · exact h2 j hj (by omega)
  · refine .inr ⟨j0, h1, h2, by omega, h4, fun j hj hz => ?_⟩
    by_cases e : j = v
    · rw [e]; exact hc
    · exact h5 j hj (by omega)
theorem Above.hit {M : Nat} {es : List (Int × Int)} {d ord : List Int} {v : Nat} (hv : v < M) (hc : catchV es d ord v = true) : Above M es d ord ((v : Int) - 1) (v : Int) :=
  .inr ⟨v, rfl, hv, by omega, hc, fun j hj hz => by omega⟩
theorem Above.end_ {M : Nat} {es : List (Int × Int)} {d ord : List Int} {nx : Int} (h : Above M es d ord (-1) nx) : (nx = -1 ∧ nextV M es d ord = none) ∨ ∃ v : Nat, nx = (v : Int) ∧ nextV M es d ord = some v := by
  rcases h with ⟨h1, h2⟩ | ⟨j0, h1, h2, h3, h4, h5⟩
  · exact .inl ⟨h1, nextV_none fun v hv => h2 v hv (by omega)⟩
  · exact .inr ⟨j0, h1, nextV_some h2 h4 fun j hj => h5 j hj (by omega)⟩
theorem Above.lo {M : Nat} {es : List (Int × Int)} {d ord : List Int} {z nx : Int} (h : Above M es d ord z nx) : -1 ≤ nx ∧ nx < (M : Int) := by
  rcases h with ⟨h1, h2⟩ | ⟨j0, h1, h2, h3, h4, h5⟩ <;> omega

set_option maxRecDepth 100000 in
set_option maxHeartbeats 4000000 in
theorem l05Burn_any (A D : Option Addr) (c cd M q : Nat) (es : List (Int × Int)) (d : List Int) (w : World) (hM0 : 0 < M) (hM : M ≤ 6) (hq : q < M) (hd : d.length = M) (hn : es.length ≤ 12) (hes : ∀ e ∈ es, 0 ≤ e.1 ∧ e.1 < e.2 ∧ e.2 < (M : Int))
    (hE : EdgeS w w.heap.size A es) (hS : IntS w w.heap.size D d) :
    Calls Try.prog 65 #[.agg #[.int .i64 (M : Int), .slice A es.length c], .slice D d.length cd, .int .i64 (q : Int)] w (GivesInts w (burntL M es d (q : Int))) := by
  obtain ⟨i0, hi, hz0, hz1, hz2⟩ := info_parts intInfo
  have hmk := make_bools M (by omega)
  have HE := Lib.hid hE
  have HS := Lib.hid hS
  have HES := Lib.hid hes
  have HD := Lib.hid hd
  have hM1 : (0 : Int) ≤ (M : Int) := Int.natCast_nonneg _
  have hq0 : (0 : Int) ≤ (q : Int) := Int.natCast_nonneg _
  have hq1 : (q : Int) < (M : Int) := by omega
  have hM7 : (M : Int) ≤ 6 := by omega
  have hmm : (Array.replicate M (Value.bool false)).setIfInBounds q (Value.bool true) = (burntM M [(q : Int)]).toArray := by
    rw [← List.toArray_replicate, List.setIfInBounds_toArray, burntM_nil, burntM_set]
    rfl
  obtain ⟨W0, hW0⟩ : ∃ X : World, X = ((w.alloc (.cells #[.int .i64 (M : Int), .slice A es.length c] 30)).alloc (.cells #[.int .i64 (q : Int)] 3)).alloc (.cells ((Array.replicate M (Value.bool false)).setIfInBounds q (Value.bool true)) 4) := ⟨_, rfl⟩
  have hb0 : Below w.heap.size w W0 := by rw [hW0]; exact (((Below.refl _ _).alloc (Nat.le_refl _) _).alloc (by simp) _).alloc (by simp; omega) _
  have g0 := ((Blk.new w 30 #[.int .i64 (M : Int), .slice A es.length c]).alloc (.cells #[.int .i64 (q : Int)] 3)).alloc (.cells ((Array.replicate M (Value.bool false)).setIfInBounds q (Value.bool true)) 4)
  rw [← hW0] at g0
  have g1 := (Blk.new (w.alloc (.cells #[.int .i64 (M : Int), .slice A es.length c] 30)) 3 #[.int .i64 (q : Int)]).alloc (.cells ((Array.replicate M (Value.bool false)).setIfInBounds q (Value.bool true)) 4)
  rw [← hW0, World.size_alloc] at g1
  have g2 := Blk.new ((w.alloc (.cells #[.int .i64 (M : Int), .slice A es.length c] 30)).alloc (.cells #[.int .i64 (q : Int)] 3)) 4 ((Array.replicate M (Value.bool false)).setIfInBounds q (Value.bool true))
  rw [← hW0, World.size_alloc, World.size_alloc, hmm] at g2
  have hw0 : BurnW w W0 M A c es (.slice (some ⟨w.heap.size + 1, 0, none⟩) 1 1) [(q : Int)] :=
    ⟨g0, ⟨rfl, .inr ⟨w.heap.size + 1, 1, #[.int .i64 (q : Int)], rfl, Nat.le_refl _, g1, Nat.le_refl _, by unfold maxLen; omega, rfl, rfl⟩⟩, g2, hb0⟩
  have HW0 := Lib.hid hW0
  have HB0 := Lib.hid hw0
  have MU := fun (u k : Nat) (w' : World) (hu : u < M) (hk : k < M) (hb : Below w.heap.size w w') => Lib.hid (show Calls Try.prog 79 #[.agg #[.int .i64 (M : Int), .slice A es.length c], .int .i64 (u : Int), .int .i64 (k : Int)] w' fun e w'' => e = .returned (.int .i64 (warms (k : Int) u es)) ∧ Below w'.heap.size w' w'' by
    rw [← multB_warms hu hk (fun e he => (hes e he).2.1)]
    exact specMultU (M : Int) A c es (u : Int) (k : Int) w' (by omega) (hE.up_ hb))
  have HI1 : Hid (BurnI M es d (q : Int) [(q : Int)]) := Lib.hid (BurnI.start (by omega))
  clear hE hS hes hd hW0 hb0 g0 g1 g2 hw0 hmm
  go_enter Try.func65, Try.ntmps65
  go_wp2
  go_loopg [7, 9, 10, 11, 12] (M - 1) (fun gk s7 _ _ _ _ wr => ∃ (ord : List Int) (A7 : Option Addr) (c7 : Nat), s7 = .slice A7 ord.length c7 ∧ Hid (gk + ord.length = M) ∧ Hid (BurnI M es d (q : Int) ord) ∧ Hid (BurnW w wr M A c es (.slice A7 ord.length c7) ord))
  case atStart => exact ⟨[(q : Int)], some ⟨w.heap.size + 1, 0, none⟩, 1, rfl, Lib.hid (by simp; omega), HI1, Lib.hid (by rw [← HW0.out]; exact HB0.out)⟩
  case round =>
    obtain ⟨ord, A7, c7, rfl, HG, HI, HB⟩ := hrel
    clear HI1 HB0 hmk HW0
    have hlM := HI.out.toBurns.len
    have hl0 : 0 < ord.length := List.length_pos_of_mem HI.out.toBurns.first
    have hl6 : ord.length ≤ 6 := by omega
    have c0 : wr.cell? ⟨w.heap.size, 0, none⟩ = some (.int .i64 (M : Int)) := by rw [HB.out.box.cell]; rfl
    obtain ⟨gx, rfl⟩ : ∃ gx : Nat, gx = gk := ⟨_, rfl⟩
    obtain ⟨wo, rfl⟩ : ∃ wo : World, wo = wr := ⟨_, rfl⟩
    go_wp2
    go_loopg [9, 10, 11, 12] M (fun gj s9 s10 _ _ wx => ∃ (z nx : Int), s9 = .int .i64 nx ∧ s10 = .int .i64 z ∧ -1 ≤ z ∧ z < (M : Int) ∧ (gj : Int) = z + 1 ∧ Hid (Above M es d ord z nx) ∧ Hid (BurnW w wx M A c es (.slice A7 ord.length c7) ord))
    case atStart => exact ⟨(M : Int) - 1, -1, rfl, rfl, by omega, by omega, by omega, Lib.hid (Above.start M es d ord), HB⟩
    case round =>
      obtain ⟨z, nx, rfl, rfl, hza, hzb, hgz, HA, HB2⟩ := hrel
      clear c0
      have c0 : wr.cell? ⟨w.heap.size, 0, none⟩ = some (.int .i64 (M : Int)) := by rw [HB2.out.box.cell]; rfl
      by_cases hz : 0 ≤ z
      · obtain ⟨v, rfl⟩ : ∃ v : Nat, z = (v : Int) := ⟨z.toNat, by omega⟩
        have hvM : v < M := by omega
        obtain ⟨gy, rfl⟩ : ∃ gy : Nat, gy = gk := ⟨_, rfl⟩
        obtain ⟨wp, rfl⟩ : ∃ wp : World, wp = wr := ⟨_, rfl⟩
        go_wp2
        go_loopg [11, 12] M (fun gi s11 s12 wy => ∃ k : Nat, k ≤ M ∧ gi + k = M ∧ s12 = .int .i64 k ∧ s11 = .int .i64 (sumH es (inL ord) v k) ∧ Hid (BurnW w wy M A c es (.slice A7 ord.length c7) ord))
        case atStart => exact ⟨0, Nat.zero_le _, by omega, rfl, rfl, HB2⟩
        case round =>
          obtain ⟨k, hk, hgk, rfl, rfl, HB3⟩ := hrel
          clear c0
          have c0 : wr.cell? ⟨w.heap.size, 0, none⟩ = some (.int .i64 (M : Int)) := by rw [HB3.out.box.cell]; rfl
          have c1 : wr.cell? ⟨w.heap.size, 1, none⟩ = some (.slice A es.length c) := by rw [HB3.out.box.cell]; rfl
          have hk0 : (0 : Int) ≤ (k : Int) := Int.natCast_nonneg _
          have hv1 : (v : Int) < (M : Int) := by omega
          by_cases hlt : k < M
          · have hk1 : (k : Int) < (M : Int) := by omega
            have mk : wr.cell? ⟨w.heap.size + 1 + 1, k, none⟩ = some (.bool (inL ord (k : Int))) := by rw [HB3.out.marks.cell]; simp [burntM_at ord hlt]
            have hlo := sumH_lo es (inL ord) v (fun e he => ⟨(HES.out e he).1, (HES.out e he).2.1⟩) k
            have hlo2 := sumH_lo es (inL ord) v (fun e he => ⟨(HES.out e he).1, (HES.out e he).2.1⟩) (k + 1)
            cases hb : inL ord (k : Int) with
            | true =>
              rw [hb] at mk
              have HQ := Lib.hid (show sumH es (inL ord) v (k + 1) = sumH es (inL ord) v k + warms (k : Int) v es by rw [sumH, if_pos hb])
              rw [HQ.out] at hlo2
              obtain ⟨sk, hsk⟩ : ∃ x, x = sumH es (inL ord) v k := ⟨_, rfl⟩
              have HM := MU v k wr hvM hlt HB3.out.old
              obtain ⟨wk, hwk⟩ : ∃ x, x = warms (k : Int) v es := ⟨_, rfl⟩
              rw [← hwk] at HM hlo2 HQ
              rw [← hsk] at hlo hlo2 HQ ⊢
              clear hb hsk hwk
              go_wp2_with fail
              refine HM.out.mono ?_
              rintro e w2 ⟨rfl, hb2⟩
              have HB4 := Lib.hid (HB3.out.next hb2)
              clear hb2
              go_wp2
              go_roundg (gk - 1)
              case measure => omega
              case rel => exact ⟨k + 1, by omega, by omega, by go_num, by rw [HQ.out], HB4⟩
            | false =>
              rw [hb] at mk
              have HQ := Lib.hid (show sumH es (inL ord) v (k + 1) = sumH es (inL ord) v k by rw [sumH, if_neg (by rw [hb]; decide)]; omega)
              clear hb
              go_wp2
              go_roundg (gk - 1)
              case measure => omega
              case rel => exact ⟨k + 1, by omega, by omega, by go_num, by rw [HQ.out], HB3⟩
          · have hkM : k = M := by omega
            have HQ := Lib.hid (show sumH es (inL ord) v k = heat (inL ord) v es by rw [hkM]; exact sumH_all es (inL ord) v M HES.out)
            rw [HQ.out]
            have mk : wr.cell? ⟨w.heap.size + 1 + 1, v, none⟩ = some (.bool (inL ord (v : Int))) := by rw [HB3.out.marks.cell]; simp [burntM_at ord hvM]
            obtain ⟨bd, od, x, hDe, hbd, hx, hcx⟩ := (HS.out.below HB3.out.old).at_ (k := v) (by have := HD.out; omega)
            subst hDe
            have HDV := Lib.hid (show d.getD v 0 = x by simp [List.getD, hx])
            have hdl : (v : Int) < (d.length : Int) := by have := HD.out; omega
            have HCV := Lib.hid (show catchV es d ord v = (decide (x < heat (inL ord) v es) && !inL ord (v : Int)) by rw [catchV, HDV.out])
            obtain ⟨hh, hhh⟩ : ∃ x, x = heat (inL ord) v es := ⟨_, rfl⟩
            rw [← hhh] at HCV ⊢
            clear hx hhh hkM
            cases hb : inL ord (v : Int) with
            | true =>
              rw [hb] at mk HCV
              have HA2 := Lib.hid (HA.out.miss (by rw [HCV.out]; simp))
              clear hb
              go_wp2
              go_roundg (gy - 1)
              case measure => omega
              case rel => exact ⟨(v : Int) - 1, nx, rfl, by go_num, by omega, by omega, by omega, HA2, HB3⟩
            | false =>
              rw [hb] at mk HCV
              clear hb
              by_cases hl : x < hh
              · have t1 : decide (x < hh) = true := decide_eq_true hl
                have HA2 := Lib.hid (Above.hit hvM (HCV.out.trans (by simp [hl])) (es := es) (d := d) (ord := ord))
                clear hl
                go_wp2
                go_roundg (gy - 1)
                case measure => omega
                case rel => exact ⟨(v : Int) - 1, (v : Int), rfl, by go_num, by omega, by omega, by omega, HA2, HB3⟩
              · have t1 : decide (x < hh) = false := decide_eq_false hl
                have HA2 := Lib.hid (HA.out.miss (HCV.out.trans (by simp [t1])))
                clear hl
                go_wp2
                go_roundg (gy - 1)
                case measure => omega
                case rel => exact ⟨(v : Int) - 1, nx, rfl, by go_num, by omega, by omega, by omega, HA2, HB3⟩
      · have hz3 : z = -1 := by omega
        subst hz3
        rcases HA.out.end_ with ⟨rfl, hn1⟩ | ⟨v, rfl, hn1⟩
        · have HND := Lib.hid (HI.out.done hn1)
          clear hn1 hz
          go_wp2
          go_ret
          rw [← HND.out]
          exact ⟨A7, c7, rfl, (OwnI.of_own HB2.out.own).mono (by omega), HB2.out.old⟩
        · obtain ⟨hvM, hcv⟩ := nextV_get hn1
          have HNV := Lib.hid (catchV_iff.1 hcv).2
          have HI4 := Lib.hid (HI.out.push hn1)
          have hlt := HI.out.toBurns.len_lt hvM HNV.out
          have mk : wr.cell? ⟨w.heap.size + 1 + 1, v, none⟩ = some (.bool false) := by rw [HB2.out.marks.cell]; simp [burntM_at ord hvM, inL, HNV.out]
          have hf := HB2.out.marks.frozen v
          have hv0 : (0 : Int) ≤ (v : Int) := Int.natCast_nonneg _
          have hv1 : (v : Int) < (M : Int) := by omega
          have hv2 : ¬ (v : Int) < 0 := by omega
          have hne := own_ne HB2.out.own HB2.out.marks
          have hsw := HB2.out.marks.lt
          have own1 : (wr.setCell ⟨w.heap.size + 1 + 1, v, none⟩ (.bool true)).ownsRow (w.heap.size + 1) 3 1 (.slice A7 ord.length c7) ord.length (intCells ord) :=
            own_keep HB2.out.own fun b hb => Below.heap_setCell wr ⟨w.heap.size + 1 + 1, v, none⟩ (.bool true) b (fun he => hne (by rw [hb, he]))
          have mk1 := HB2.out.marks.set_ v (.bool true)
          rw [List.setIfInBounds_toArray, burntM_set] at mk1
          have bx1 := HB2.out.box.far (p := ⟨w.heap.size + 1 + 1, v, none⟩) (by simp only; omega) (.bool true)
          have old1 := HB2.out.old.setCell (p := ⟨w.heap.size + 1 + 1, v, none⟩) (by simp only; omega) (.bool true)
          have hs1 : (wr.setCell ⟨w.heap.size + 1 + 1, v, none⟩ (.bool true)).heap.size = wr.heap.size := by simp [World.setCell]
          have OW := Lib.hid (own_below own1 ((Below.refl _ _).alloc (Nat.le_refl _) (.cells #[.int .i64 (v : Int)] 3)))
          have BX := Lib.hid (bx1.alloc (.cells #[.int .i64 (v : Int)] 3))
          have MK := Lib.hid (mk1.alloc (.cells #[.int .i64 (v : Int)] 3))
          have OL := Lib.hid (old1.alloc (by rw [hs1]; omega) (.cells #[.int .i64 (v : Int)] 3))
          clear hn1 hcv own1 mk1 bx1 old1 hz hne
          go_wp2_with (at_builtin; refine wpList_append_own _ rfl _ _ 26 rfl (w.heap.size + 1) 3 i0 (.int .i64 0) 1 8 Try.underlying26 hi hz0 hz1 hz2 rfl (by decide) _ _ _ rfl OW.out ⟨_, 0, none⟩ 1 1 [.int .i64 (v : Int)] rfl rfl ?c1 ?c2 ?c3 ?c4 ?c5 ?_)
          case c2 => simp [Value.oneCell']
          case c3 => unfold maxLen; omega
          case c4 => omega
          case c5 =>
            have := HB2.out.old.size
            first | omega | (simp; omega) | (simp [World.setCell]; omega)
          intro v' w3 hown' hgrow _
          have hown2 : w3.ownsRow (w.heap.size + 1) 3 1 v' (ord.length + 1) (intCells (ord ++ [(v : Int)])) := by rw [← cells_snoc]; exact hown'
          obtain ⟨A8, c8, hv8, hlen⟩ := own_slice hown2
          rw [hlen] at hown2
          have hbx3 := BX.out.grown hgrow (by
            intro hq
            have := (OW.out.lt _ hq).1
            omega)
          have hmk3 := MK.out.grown hgrow (own_ne OW.out MK.out)
          have hol3 := OL.out.grown hgrow (by simp [World.setCell]; omega) (fun q hq => by have := (OW.out.lt q hq).1; omega)
          subst hv8
          have HB4 := Lib.hid (show BurnW w w3 M A c es (.slice A8 (ord ++ [(v : Int)]).length c8) (ord ++ [(v : Int)]) from ⟨hbx3, hown2, hmk3, hol3⟩)
          clear hown' hown2 hgrow hbx3 hmk3 hol3 hlen
          go_wp2
          go_roundg (gx - 1)
          case measure => have := HG.out; omega
          case rel => exact ⟨ord ++ [(v : Int)], A8, c8, rfl, Lib.hid (by have := HG.out; simp; omega), HI4, HB4⟩
theorem clone_any (D : Option Addr) (cd B : Nat) (d : List Int) (w : World) (h0 : 0 < d.length) (hd : d.length ≤ 1048576) (hS : IntS w B D d) :
    Calls Try.prog 68 #[.slice D d.length cd] w fun e w' => ∃ g cg : Nat, e = .returned (.slice (some ⟨g, 0, none⟩) d.length cg) ∧ w.heap.size ≤ g ∧ Chips w' g d ∧ Below w.heap.size w w' := by
  obtain ⟨b, off, rfl, hb, hc⟩ := hS h0
  refine (Try.slices_Clone_int b off d.length cd d w (Nat.le_refl _) (by omega) (fun j hj => by rw [hc j d[j] (List.getElem?_eq_getElem hj)]; simp [List.getD, List.getElem?_eq_getElem hj])).mono ?_
  rintro e w' ⟨v, rfl, hown, _, hbl⟩
  rw [List.take_length] at hown
  obtain ⟨g, cg, rfl, hg, hch⟩ := Chips.of_own (l := d) hown h0
  exact ⟨g, cg, rfl, hg, hch, hbl⟩

def GivesBoard (w : World) (A : Option Addr) (n c : Nat) (d : List Int) (e : Ending) (w' : World) : Prop :=
  ∃ p g cg : Nat, e = .returned (.pointer (some ⟨p, 0, none⟩)) ∧ Blk w' p 68 #[.slice A n c, .slice (some ⟨g, 0, none⟩) d.length cg] ∧ Chips w' g d ∧ w.heap.size ≤ g ∧ g < p ∧ Below w.heap.size w w'
set_option maxHeartbeats 1000000 in
theorem boardOf_any (N : Int) (A D : Option Addr) (n c cd : Nat) (d : List Int) (w : World) (h0 : 0 < d.length) (hd : d.length ≤ 1048576) (hS : IntS w w.heap.size D d) :
    Calls Try.prog 54 #[.agg #[.int .i64 N, .slice A n c], .slice D d.length cd] w (GivesBoard w A n c d) := by
  have HS := Lib.hid hS
  clear hS
  go_enter Try.func54, Try.ntmps54
  go_wp2_with fail
  obtain ⟨W0, hW0⟩ : ∃ X : World, X = w.alloc (Obj.cells #[.int .i64 N, .slice A n c] 30) := ⟨_, rfl⟩
  rw [← hW0]
  have hb0 : Below w.heap.size w W0 := by rw [hW0]; exact (Below.refl _ _).alloc (Nat.le_refl _) _
  have c1 : W0.cell? ⟨w.heap.size, 1, none⟩ = some (.slice A n c) := by rw [hW0, (Blk.new w _ _).cell]; rfl
  have l0 : w.heap.size < W0.heap.size := by rw [hW0]; simp
  clear hW0
  go_region_held3 (fun w' => w'.cell? ⟨w.heap.size, 1, none⟩ = some (.slice A n c) ∧ Below W0.heap.size W0 w')
    (first
      | exact ⟨c1, (Below.refl _ _).drew⟩
      | exact keepB (by assumption) hb2 l0
      | exact keepB (by assumption) ((Below.refl _ _).alloc (Nat.le_refl _) _) l0)
    ((go_at_call 68; refine (clone_any _ _ _ _ _ h0 hd (HS.out.up_ hb0.drew)).mono ?_; rintro e w2 ⟨g, cg, rfl, hg, hc, hb2⟩))
  have hs2 := hb2.size
  have hg2 : W0.heap.size ≤ g := hg
  have hgl := hc.lt
  have hbz : Below w.heap.size w (w2.alloc (Obj.cells #[.slice A n c, .slice (some ⟨g, 0, none⟩) d.length cg] 68)) := (hb0.drew.trans (hb2.mono hb0.size)).alloc (by have := hb0.size; omega) _
  have HC := Lib.hid (hc.below ((Below.refl _ _).alloc (Nat.le_refl _) (Obj.cells #[.slice A n c, .slice (some ⟨g, 0, none⟩) d.length cg] 68)))
  clear hc hb2
  go_wp2
  go_ret
  exact ⟨w2.heap.size, g, cg, rfl, Blk.new _ _ _, HC.out, by have := hb0.size; omega, hgl, hbz⟩
/-- the box of the graph that came in, and all that lay before, as they were -/
structure GB (w wc : World) (N : Int) (A : Option Addr) (c : Nat) (es : List (Int × Int)) : Prop where
  box : Blk wc w.heap.size 30 #[.int .i64 N, .slice A es.length c]
  old : Below w.heap.size w wc
section
variable {w wc wd : World} {N : Int} {A : Option Addr} {c : Nat} {es : List (Int × Int)}
theorem GB.c0 (h : GB w wc N A c es) : wc.cell? ⟨w.heap.size, 0, none⟩ = some (.int .i64 N) := by rw [h.box.cell]; rfl
theorem GB.c1 (h : GB w wc N A c es) : wc.cell? ⟨w.heap.size, 1, none⟩ = some (.slice A es.length c) := by rw [h.box.cell]; rfl
theorem GB.next (h : GB w wc N A c es) (hb : Below wc.heap.size wc wd) : GB w wd N A c es := ⟨h.box.below hb h.box.lt, h.old.trans (hb.mono h.old.size)⟩
theorem GB.lt (h : GB w wc N A c es) : w.heap.size < wc.heap.size := h.box.lt
theorem GB.start (w : World) (N : Int) (A : Option Addr) (c : Nat) (es : List (Int × Int)) : GB w (w.alloc (.cells #[.int .i64 N, .slice A es.length c] 30)) N A c es := ⟨Blk.new w _ _, (Below.refl _ _).alloc (Nat.le_refl _) _⟩
end
theorem div_limsB {N : Int} {es : List (Int × Int)} {d : List Int} (h : divB 60 N es d = true) : ∃ M : Nat, N = (M : Int) ∧ 0 < M ∧ M ≤ 6 ∧ es.length ≤ 12 ∧ d.length = M ∧ (∀ e ∈ es, 0 ≤ e.1 ∧ e.1 < e.2 ∧ e.2 < (M : Int)) ∧ (∀ u, -60 ≤ d.getD u 0 ∧ d.getD u 0 ≤ 60) ∧ Conn (M : Int) es := by
  obtain ⟨h1, h2, h3⟩ := divB_all h
  obtain ⟨h4, h5⟩ := graphB_all h1
  obtain ⟨h6, h7, h8⟩ := edgesB_lims h4
  obtain ⟨M, rfl⟩ : ∃ M : Nat, N = (M : Int) := ⟨N.toNat, by omega⟩
  refine ⟨M, rfl, by omega, by omega, h8, by omega, fun e he => all_edge h4 he, fun u => ?_, h5⟩
  cases hu : d[u]? with
  | none => simp [List.getD, hu]
  | some x =>
    have := h3 x (List.mem_of_getElem? hu)
    simp [List.getD, hu]
    omega
def debtAt (d : List Int) (q : Int) (v : Nat) : Bool := !decide ((v : Int) = q) && decide (d.getD v 0 < 0)
/-- the least vertex other than q in debt, or -1 -/
def debtor (d : List Int) (q : Int) : Int := match (List.range d.length).find? (debtAt d q) with
  | some v => (v : Int)
  | none => -1
def hasDebt (d : List Int) (q : Int) : Bool := (List.range d.length).any (debtAt d q)
theorem debtor_none {d : List Int} {q : Int} (h : ∀ v, v < d.length → debtAt d q v = false) : debtor d q = -1 ∧ hasDebt d q = false := by
  have h1 : (List.range d.length).find? (debtAt d q) = none := by
    rw [List.find?_eq_none]
    intro x hx
    rw [h x (List.mem_range.1 hx)]
    simp
  refine ⟨by rw [debtor, h1], ?_⟩
  rw [hasDebt, List.any_eq_false]
  intro x hx
  rw [h x (List.mem_range.1 hx)]
  simp
theorem debtor_some {d : List Int} {q : Int} {v : Nat} (hv : v < d.length) (hc : debtAt d q v = true) (h : ∀ j, j < v → debtAt d q j = false) : debtor d q = (v : Int) ∧ hasDebt d q = true := by
  have h1 : (List.range d.length).find? (debtAt d q) = some v := by
    rw [List.find?_range_eq_some]
    exact ⟨hc, List.mem_range.2 hv, fun j hj => by rw [h j hj]; rfl⟩
  refine ⟨by rw [debtor, h1], ?_⟩
  rw [hasDebt, List.any_eq_true]
  exact ⟨v, List.mem_range.2 hv, hc⟩
theorem least_or (P : Nat → Bool) : ∀ n, (∀ v, v < n → P v = false) ∨ ∃ v, v < n ∧ P v = true ∧ ∀ j, j < v → P j = false
  | 0 => .inl fun v h => by omega
  | n + 1 => by
    rcases least_or P n with h | ⟨v, h1, h2, h3⟩
    · cases hc : P n with
      | false =>
        refine .inl fun v hv => ?_
        by_cases e : v = n
        · rw [e]; exact hc
        · exact h v (by omega)
      | true => exact .inr ⟨n, by omega, hc, h⟩
    · exact .inr ⟨v, by omega, h2, h3⟩
theorem debtor_cases (d : List Int) (q : Int) : (debtor d q = -1 ∧ hasDebt d q = false ∧ ∀ v, v < d.length → debtAt d q v = false) ∨ ∃ v : Nat, v < d.length ∧ debtor d q = (v : Int) ∧ hasDebt d q = true ∧ debtAt d q v = true ∧ ∀ j, j < v → debtAt d q j = false := by
  rcases least_or (debtAt d q) d.length with h | ⟨v, h1, h2, h3⟩
  · exact .inl ⟨(debtor_none h).1, (debtor_none h).2, h⟩
  · exact .inr ⟨v, h1, (debtor_some h1 h2 h3).1, (debtor_some h1 h2 h3).2, h2, h3⟩
set_option maxHeartbeats 400000 in
theorem isDebtB (z : Int) (w : World) : Calls Try.prog 67 #[.int .i64 z] w fun e w' => e = .returned (.bool (decide (z < 0))) ∧ w = w' := by
  go_enter Try.func67, Try.ntmps67
  go_wp2
  go_ret
  exact ⟨rfl, rfl⟩
set_option maxRecDepth 100000 in
set_option maxHeartbeats 1000000 in
theorem debtorBeside_any (D : Option Addr) (cd B : Nat) (d : List Int) (q : Int) (w : World) (hd : d.length ≤ 1048576) (hS : IntS w B D d) :
    Calls Try.prog 69 #[.slice D d.length cd, .int .i64 q] w fun e w' => e = .returned (.int .i64 (debtor d q)) ∧ w' = w := by
  have HS := Lib.hid hS
  clear hS
  go_enter Try.func69, Try.ntmps69
  go_wp2
  go_loopw [9, 5, 6] (fun i _ _ wr => ∃ k : Nat, k ≤ d.length ∧ i = .int .i64 k ∧ (∀ j, j < k → debtAt d q j = false) ∧ wr = w) (fun i _ _ _ => d.length - (intOf i).toNat)
  case atStart => exact ⟨0, Nat.zero_le _, rfl, fun j hj => absurd hj (by omega), rfl⟩
  case round =>
    obtain ⟨k, hk, rfl, hno, rfl⟩ := hrel
    have HN := Lib.hid hno
    clear hno
    by_cases hlt : k < d.length
    · obtain ⟨b1, o1, x, rfl, hb1, he, hc0⟩ := HS.out.at_ hlt
      have hi0 : (0 : Int) ≤ (k : Int) := Int.natCast_nonneg _
      have hi1 : (k : Int) < (d.length : Int) := by omega
      have hD : debtAt d q k = (!decide ((k : Int) = q) && decide (x < 0)) := by simp [debtAt, List.getD, he]
      have HX := Lib.hid (isDebtB x wr)
      clear he
      by_cases hq : (k : Int) = q
      · have t1 : ((k : Int) != q) = false := by simp [hq]
        have HN2 : Hid (∀ j, j < k + 1 → debtAt d q j = false) := Lib.hid (fun j hj => by
          by_cases e : j = k
          · rw [e, hD]; simp [hq]
          · exact HN.out j (by omega))
        clear hD hq
        go_wp2
        exact ⟨⟨k + 1, by omega, by go_num, HN2.out, by trivial⟩, by simp [intOf]; omega⟩
      · have t1 : ((k : Int) != q) = true := by simp [hq]
        by_cases hx : x < 0
        · have t2 : decide (x < 0) = true := decide_eq_true hx
          have HR := Lib.hid (debtor_some hlt (by rw [hD]; simp [hq, hx]) HN.out).1
          rw [t2] at HX
          clear hD hq hx
          go_wp2_with fail
          refine HX.out.mono ?_
          rintro e w' ⟨rfl, rfl⟩
          go_wp2
          go_ret
          exact ⟨by rw [HR.out]; rfl, rfl⟩
        · have t2 : decide (x < 0) = false := decide_eq_false hx
          have HN2 : Hid (∀ j, j < k + 1 → debtAt d q j = false) := Lib.hid (fun j hj => by
            by_cases e : j = k
            · rw [e, hD]; simp [t2]
            · exact HN.out j (by omega))
          rw [t2] at HX
          clear hD hq hx
          go_wp2_with fail
          refine HX.out.mono ?_
          rintro e w' ⟨rfl, rfl⟩
          go_wp2
          exact ⟨⟨k + 1, by omega, by go_num, HN2.out, by trivial⟩, by simp [intOf]; omega⟩
    · have HR := Lib.hid (debtor_none (fun v hv => HN.out v (by omega))).1
      go_wp2
      go_ret
      exact ⟨by rw [HR.out]; rfl, rfl⟩
set_option maxRecDepth 100000 in
set_option maxHeartbeats 1000000 in
theorem l05Debt_any (D : Option Addr) (cd B : Nat) (d : List Int) (q : Int) (w : World) (hd : d.length ≤ 1048576) (hS : IntS w B D d) :
    Calls Try.prog 63 #[.slice D d.length cd, .int .i64 q] w fun e w' => e = .returned (.bool (hasDebt d q)) ∧ w' = w := by
  have HS := Lib.hid hS
  clear hS
  go_enter Try.func63, Try.ntmps63
  go_wp2
  go_loopw [9, 5, 6] (fun i _ _ wr => ∃ k : Nat, k ≤ d.length ∧ i = .int .i64 k ∧ (∀ j, j < k → debtAt d q j = false) ∧ wr = w) (fun i _ _ _ => d.length - (intOf i).toNat)
  case atStart => exact ⟨0, Nat.zero_le _, rfl, fun j hj => absurd hj (by omega), rfl⟩
  case round =>
    obtain ⟨k, hk, rfl, hno, rfl⟩ := hrel
    have HN := Lib.hid hno
    clear hno
    by_cases hlt : k < d.length
    · obtain ⟨b1, o1, x, rfl, hb1, he, hc0⟩ := HS.out.at_ hlt
      have hi0 : (0 : Int) ≤ (k : Int) := Int.natCast_nonneg _
      have hi1 : (k : Int) < (d.length : Int) := by omega
      have hD : debtAt d q k = (!decide ((k : Int) = q) && decide (x < 0)) := by simp [debtAt, List.getD, he]
      clear he
      by_cases hq : (k : Int) = q
      · have t1 : ((k : Int) != q) = false := by simp [hq]
        have HN2 : Hid (∀ j, j < k + 1 → debtAt d q j = false) := Lib.hid (fun j hj => by
          by_cases e : j = k
          · rw [e, hD]; simp [hq]
          · exact HN.out j (by omega))
        clear hD hq
        go_wp2
        exact ⟨⟨k + 1, by omega, by go_num, HN2.out, by trivial⟩, by simp [intOf]; omega⟩
      · have t1 : ((k : Int) != q) = true := by simp [hq]
        by_cases hx : x < 0
        · have t2 : decide (x < 0) = true := decide_eq_true hx
          have HR := Lib.hid (debtor_some hlt (by rw [hD]; simp [hq, hx]) HN.out).2
          clear hD hq hx
          go_wp2
          go_ret
          exact ⟨ret_boolE HR.out.symm, rfl⟩
        · have t2 : decide (x < 0) = false := decide_eq_false hx
          have HN2 : Hid (∀ j, j < k + 1 → debtAt d q j = false) := Lib.hid (fun j hj => by
            by_cases e : j = k
            · rw [e, hD]; simp [t2]
            · exact HN.out j (by omega))
          clear hD hq hx
          go_wp2
          exact ⟨⟨k + 1, by omega, by go_num, HN2.out, by trivial⟩, by simp [intOf]; omega⟩
    · have HR := Lib.hid (debtor_none (fun v hv => HN.out v (by omega))).2
      go_wp2
      go_ret
      exact ⟨ret_boolE HR.out.symm, rfl⟩
theorem sparedL_snoc (M : Nat) (ord : List Int) : sparedL (M + 1) ord = sparedL M ord ++ if inL ord (M : Int) = true then [] else [(M : Int)] := by
  unfold sparedL
  rw [List.range_succ, List.filter_append, List.map_append]
  congr 1
  cases h : inL ord (M : Int) <;> simp [h]
theorem sparedL_len (M : Nat) (ord : List Int) : (sparedL M ord).length ≤ M := by
  unfold sparedL
  rw [List.length_map]
  have := List.length_filter_le (fun (v : Nat) => !inL ord (v : Int)) (List.range M)
  simpa using this
theorem sparedL_mem {M : Nat} {ord : List Int} {x : Int} : x ∈ sparedL M ord ↔ 0 ≤ x ∧ x < (M : Int) ∧ ¬ x ∈ ord := by
  unfold sparedL
  simp only [List.mem_map, List.mem_filter, List.mem_range, inL, Bool.not_eq_true', decide_eq_false_iff_not]
  constructor
  · rintro ⟨v, ⟨h1, h2⟩, rfl⟩
    exact ⟨by omega, by omega, h2⟩
  · rintro ⟨h1, h2, h3⟩
    exact ⟨x.toNat, ⟨by omega, by rw [show ((x.toNat : Nat) : Int) = x by omega]; exact h3⟩, by omega⟩
theorem sparedL_nodup (M : Nat) (ord : List Int) : (sparedL M ord).Nodup := by
  unfold sparedL
  rw [List.nodup_iff_pairwise_ne, List.pairwise_map]
  exact List.Pairwise.imp (fun {a b} h => by omega) (List.nodup_iff_pairwise_ne.1 (List.nodup_range.sublist (List.filter_sublist)))
set_option maxRecDepth 100000 in
set_option maxHeartbeats 2000000 in
theorem spared_any (B base pf gh ch pb M : Nat) (ord : List Int) (h : Nat → Int) (w : World) (hM : M ≤ 6) (ho : ord.length ≤ 6) (h0 : 0 < ord.length) (hZ : Blaze w B base pf gh ch pb M ord h) :
    Calls Try.prog 73 #[.pointer (some ⟨pf, 0, none⟩)] w (GivesInts w (sparedL M ord)) := by
  obtain ⟨i0, hi, hz0, hz1, hz2⟩ := info_parts intInfo
  obtain ⟨O, co, hbx, _⟩ := hZ.box
  have q2 : w.cell? ⟨pf, 2, none⟩ = some (.slice (some ⟨gh, 0, none⟩) M ch) := by rw [hbx.cell]; rfl
  have HB := fun (v : Int) (w' : World) (hb : Below w.heap.size w w') => Lib.hid (burns_any B base pf gh ch pb M ord h v w' ho h0 (hZ.below hb))
  clear hZ hbx
  go_enter Try.func73, Try.ntmps73
  go_wp2
  go_loopw [3, 4, 10] (fun s _ i wr => ∃ (k : Nat) (A3 : Option Addr) (c3 : Nat), k ≤ M ∧ i = .int .i64 k ∧ s = .slice A3 (sparedL k ord).length c3 ∧ wr.ownsRow w.heap.size 3 1 (.slice A3 (sparedL k ord).length c3) (sparedL k ord).length (intCells (sparedL k ord)) ∧ Below w.heap.size w wr) (fun _ _ i _ => M - (intOf i).toNat)
  case atStart => exact ⟨0, none, 0, Nat.zero_le _, rfl, rfl, ⟨rfl, .inl ⟨rfl, rfl⟩⟩, Below.refl _ _⟩
  case round =>
    obtain ⟨k, A3, c3, hk, rfl, rfl, hown, hb⟩ := hrel
    have HO := Lib.hid hown
    have HBW := Lib.hid hb
    have hsl := sparedL_len k ord
    have hws := hb.size
    clear hown hb q2
    obtain ⟨sk, hsk⟩ : ∃ x, x = sparedL k ord := ⟨_, rfl⟩
    rw [← hsk] at HO hsl ⊢
    have HQ := Lib.hid hsk
    clear hsk
    by_cases hlt : k < M
    · have hi0 : (0 : Int) ≤ (k : Int) := Int.natCast_nonneg _
      have hi1 : (k : Int) < (M : Int) := by omega
      have HX := HB (k : Int) wr HBW.out
      cases hc : inL ord (k : Int) with
      | true =>
        rw [hc] at HX
        have HN := Lib.hid (show sparedL (k + 1) ord = sk by rw [sparedL_snoc, if_pos hc, HQ.out]; simp)
        clear hc
        go_wp2_with fail
        refine HX.out.mono ?_
        rintro e w' ⟨rfl, rfl⟩
        go_wp2
        exact ⟨⟨k + 1, A3, c3, by omega, by go_num, by rw [HN.out], by rw [HN.out]; exact HO.out, HBW.out⟩, by simp [intOf]; omega⟩
      | false =>
        rw [hc] at HX
        have HN := Lib.hid (show sparedL (k + 1) ord = sk ++ [(k : Int)] by rw [sparedL_snoc, if_neg (by rw [hc]; decide), HQ.out])
        have OW := Lib.hid (own_below HO.out ((Below.refl _ _).alloc (Nat.le_refl _) (.cells #[.int .i64 (k : Int)] 3)))
        clear hc
        go_wp2_with (first
          | (go_at_call 84; refine HX.out.mono ?_; rintro e w' ⟨rfl, rfl⟩)
          | (at_builtin; refine wpList_append_own _ rfl _ _ 26 rfl w.heap.size 3 i0 (.int .i64 0) 1 8 Try.underlying26 hi hz0 hz1 hz2 rfl (by decide) _ _ _ rfl OW.out ⟨_, 0, none⟩ 1 1 [.int .i64 (k : Int)] rfl rfl ?k1 ?k2 ?k3 ?k4 ?k5 ?_))
        case k1 => exact one_cell _ _ (by simp) _ _
        case k2 => simp [Value.oneCell']
        case k3 => unfold maxLen; omega
        case k4 => omega
        case k5 => simp; omega
        intro v' w3 hown' hgrow _
        have hown2 : w3.ownsRow w.heap.size 3 1 v' (sk.length + 1) (intCells (sk ++ [(k : Int)])) := by rw [← cells_snoc]; exact hown'
        obtain ⟨A8, c8, hv8, hlen⟩ := own_slice hown2
        rw [hlen] at hown2
        have hol3 : Below w.heap.size w w3 := (HBW.out.alloc (by omega) (.cells #[.int .i64 (k : Int)] 3)).grown hgrow (by simp; omega) (fun q hq => (OW.out.lt q hq).1)
        subst hv8
        rw [← HN.out] at hown2
        have HO4 := Lib.hid hown2
        have HL4 := Lib.hid (congrArg List.length HN.out)
        have HB4 := Lib.hid hol3
        clear hown' hown2 hgrow hol3 hlen
        go_wp2
        exact ⟨⟨k + 1, A8, c8, by omega, by go_num, by rw [HL4.out], HO4.out, HB4.out⟩, by simp [intOf]; omega⟩
    · have HN := Lib.hid (show sk = sparedL M ord by rw [HQ.out, show k = M by omega])
      go_wp2
      go_ret
      exact ⟨A3, c3, by rw [HN.out]; rfl, by rw [← HN.out]; exact OwnI.of_own HO.out, HBW.out⟩
theorem near_cut {es : List (Int × Int)} {p : Int → Bool} {v : Int} {k : Nat} {u : Int} (h : Near es v k u) (hne : p v ≠ p u) : ∃ e ∈ es, p e.1 ≠ p e.2 := by
  induction h with
  | start => exact absurd rfl hne
  | stay _ ih => exact ih hne
  | @step k a b _ ht ih =>
    by_cases hab : p v = p a
    · rcases ht with g | g
      · exact ⟨(a, b), g, by rw [← hab]; exact hne⟩
      · exact ⟨(b, a), g, by simp only; rw [← hab]; exact Ne.symm hne⟩
    · exact ih hab
theorem Conn.cut {M : Nat} {es : List (Int × Int)} (h : Conn (M : Int) es) : Cut M es := by
  rintro p ⟨x, hx0, hx1, hpx⟩ ⟨y, hy0, hy1, hpy⟩
  obtain ⟨k1, n1⟩ := h x hx0 hx1
  obtain ⟨k2, n2⟩ := h y hy0 hy1
  cases hp : p 0 with
  | true => exact near_cut n2 (by rw [hp, hpy]; decide)
  | false => exact near_cut n1 (by rw [hp, hpx]; decide)
section
variable {M : Nat} {es : List (Int × Int)} {d : List Int} {q : Nat} {f : Nat → Int} {σ : Nat → Int}
theorem fired_Dv (hes : ∀ e ∈ es, 0 ≤ e.1 ∧ e.1 < e.2 ∧ e.2 < (M : Int)) (hf : ∀ u, u < M → -1000000000 ≤ f u ∧ f u ≤ 1000000000) : firedB M es d (chipsOf M f) = chipsOf M (Dv d es f) := by
  unfold firedB
  refine chipsOf_eq fun u hu => ?_
  rw [Dv, terms_F, termsF_congr u es fun e he => ?_]
  obtain ⟨h1, h2, h3⟩ := hes e he
  have a1 := hf e.1.toNat (by omega)
  have a2 := hf e.2.toNat (by omega)
  exact ⟨chips_get (by omega) (by omega), chips_get (by omega) (by omega)⟩
theorem addSet_sum {U : Int → Bool} {t : Int} (ht : 0 ≤ t) (hx : ∃ v, v < M ∧ U ((v : Nat) : Int) = true) : sumV f M + t ≤ sumV (addSet f U t) M := by
  obtain ⟨v, hv, hU⟩ := hx
  have h1 := sumV_le M (f := fun u => f u + t * ind u (v : Int)) (g := addSet f U t) (fun u _ => by
    unfold addSet ind
    by_cases e : u = v
    · subst e
      rw [if_pos rfl, if_pos hU]; omega
    · rw [if_neg (by omega)]
      split <;> omega)
  rw [sumV_add, show (fun u => t * ind u (v : Int)) = (fun u => (fun _ => t) u * ind u (v : Int)) from rfl, sumV_ind, if_pos hv] at h1
  exact h1
/-- the vertices up to k that do not burn -/
def upU (ord : List Int) (k : Nat) (x : Int) : Bool := !inL ord x && decide (x < (k : Int))
theorem upU_zero (f : Nat → Int) (ord : List Int) (t : Int) : addSet f (upU ord 0) t = f := by
  funext u
  rw [addSet, if_neg]
  simp [upU]
theorem upU_in {ord : List Int} {k : Nat} {t : Int} (f : Nat → Int) (h : inL ord (k : Int) = true) : addSet f (upU ord (k + 1)) t = addSet f (upU ord k) t := by
  funext u
  unfold addSet upU
  by_cases e : u = k
  · subst e
    simp [h]
  · have : ((u : Int) < ((k + 1 : Nat) : Int)) = ((u : Int) < (k : Int)) := by apply propext; omega
    simp only [this]
theorem upU_out {ord : List Int} {k : Nat} {t : Int} (f : Nat → Int) (h : inL ord (k : Int) = false) : addSet f (upU ord (k + 1)) t = addAt (addSet f (upU ord k) t) k t := by
  funext u
  unfold addAt addSet upU
  by_cases e : u = k
  · subst e
    have : (u : Int) < ((u + 1 : Nat) : Int) := by omega
    simp only [h, this, decide_true, Bool.not_false, Bool.and_self, if_true]
    simp
  · have : ((u : Int) < ((k + 1 : Nat) : Int)) = ((u : Int) < (k : Int)) := by apply propext; omega
    simp only [this, if_neg e]
theorem upU_at {ord : List Int} {k : Nat} {t : Int} (f : Nat → Int) : addSet f (upU ord k) t k = f k := by
  unfold addSet upU
  simp
/-- the chips of a script's divisor, as they are -/
theorem Dv_get (hn : es.length ≤ 12) (hd : ∀ u, -100 ≤ d.getD u 0 ∧ d.getD u 0 ≤ 100) (hes : ∀ e ∈ es, 0 ≤ e.1 ∧ e.1 < e.2 ∧ e.2 < (M : Int)) (hf : ∀ u, u < M → -1000000000 ≤ f u ∧ f u ≤ 1000000000) {u : Nat} (hu : u < M) : (chipsOf M (Dv d es f)).getD u 0 = Dv d es f u :=
  chips_get hu (Dv_bound hn (fun u => by have := hd u; omega) hes hf u)
theorem Ph1.wide (h : Ph1 M es d q f) (hw : Wt M es q σ) (hM : M ≤ 6) (hes : ∀ e ∈ es, 0 ≤ e.1 ∧ e.1 < e.2 ∧ e.2 < (M : Int)) (hd : ∀ u, -100 ≤ d.getD u 0 ∧ d.getD u 0 ≤ 100) : ∀ u, u < M → -1000000000 ≤ f u ∧ f u ≤ 1000000000 := fun u hu => by
  have := h.low hw hM hes hd u hu
  omega
theorem Ph1.one (h : Ph1 M es d q f) (hn : es.length ≤ 12) (hes : ∀ e ∈ es, 0 ≤ e.1 ∧ e.1 < e.2 ∧ e.2 < (M : Int)) {v : Nat} (hv : v ≠ q) (hlt : Dv d es f v < 0) : Ph1 M es d q (addAt f v (-1)) :=
  h.step hes hv (k := 1) (by omega) (by have := nets_self v es (fun e he => (hes e he).2.1); omega)
/-- the spared vertices may fire -/
theorem Ph2.next (h : Ph2 M es d q σ f) (hw : Wt M es q σ) (hq : q < M) (hes : ∀ e ∈ es, 0 ≤ e.1 ∧ e.1 < e.2 ∧ e.2 < (M : Int)) {t : Int} (ht : 0 ≤ t)
    (hc : ∀ v : Nat, v < M → ¬ (v : Int) ∈ burntL M es (chipsOf M (Dv d es f)) (q : Int) → t * heat (inL (burntL M es (chipsOf M (Dv d es f)) (q : Int))) v es ≤ Dv d es f v) :
    Ph2 M es d q σ (addSet f (upU (burntL M es (chipsOf M (Dv d es f)) (q : Int)) M) t) := by
  obtain ⟨hb, hnx⟩ := burntL_all (M := M) (es := es) (d := chipsOf M (Dv d es f)) (q := (q : Int)) (by omega)
  refine h.fire hw hes ht ?_ fun v hv hU => ?_
  · simp [upU, inL, hb.first]
  · simp only [upU, Bool.and_eq_true, Bool.not_eq_true', decide_eq_true_eq] at hU
    have h1 := hc v hv (by simpa [inL] using hU.1)
    rw [heat_congr (r := inL (burntL M es (chipsOf M (Dv d es f)) (q : Int))) v es fun e he => ?_]
    · exact h1
    · obtain ⟨g1, g2, g3⟩ := hes e he
      have a1 : e.1 < (M : Int) := by omega
      simp [upU, a1, g3]
theorem Ph2.one (h : Ph2 M es d q σ f) (hw : Wt M es q σ) (hM : M ≤ 6) (hn : es.length ≤ 12) (hq : q < M) (hd : ∀ u, -100 ≤ d.getD u 0 ∧ d.getD u 0 ≤ 100) (hes : ∀ e ∈ es, 0 ≤ e.1 ∧ e.1 < e.2 ∧ e.2 < (M : Int)) :
    Ph2 M es d q σ (addSet f (upU (burntL M es (chipsOf M (Dv d es f)) (q : Int)) M) 1) :=
  h.next hw hq hes (by omega) fun v hv hnb => by
    have h1 := nextV_no (burntL_all (M := M) (es := es) (d := chipsOf M (Dv d es f)) (q := (q : Int)) (by omega)).2 v hv
    simp only [catchV, Bool.and_eq_false_iff, decide_eq_false_iff_not, Bool.not_eq_false'] at h1
    rw [Dv_get hn hd hes (h.high hw hM hes) hv] at h1
    rcases h1 with g | g
    · omega
    · exact absurd (by simpa [inL] using g) hnb
theorem Ph2.more {ord : List Int} (hb : Burns M (q : Int) ord) (hl : ord.length ≠ M) : ∃ v, v < M ∧ upU ord M ((v : Nat) : Int) = true := by
  apply Classical.byContradiction
  intro hno
  refine hl (hb.full_iff.2 fun v hv => ?_)
  apply Classical.byContradiction
  intro hn
  exact hno ⟨v, hv, by simp [upU, inL, hn, hv]⟩
theorem Ph2.red (h : Ph2 M es d q σ f) (hw : Wt M es q σ) (hM : M ≤ 6) (hes : ∀ e ∈ es, 0 ≤ e.1 ∧ e.1 < e.2 ∧ e.2 < (M : Int)) (hl : (burntL M es (chipsOf M (Dv d es f)) (q : Int)).length = M) : IsRed M es d q f := ⟨h.zero, h.high hw hM hes, h.pos, hl⟩
theorem debt_Dv (hn : es.length ≤ 12) (hd : ∀ u, -100 ≤ d.getD u 0 ∧ d.getD u 0 ≤ 100) (hes : ∀ e ∈ es, 0 ≤ e.1 ∧ e.1 < e.2 ∧ e.2 < (M : Int)) (hf : ∀ u, u < M → -1000000000 ≤ f u ∧ f u ≤ 1000000000) {u : Nat} (hu : u < M) : debtAt (chipsOf M (Dv d es f)) (q : Int) u = (!decide ((u : Int) = (q : Int)) && decide (Dv d es f u < 0)) := by
  rw [debtAt, Dv_get hn hd hes hf hu]
theorem noDebt (hn : es.length ≤ 12) (hd : ∀ u, -100 ≤ d.getD u 0 ∧ d.getD u 0 ≤ 100) (hes : ∀ e ∈ es, 0 ≤ e.1 ∧ e.1 < e.2 ∧ e.2 < (M : Int)) (hf : ∀ u, u < M → -1000000000 ≤ f u ∧ f u ≤ 1000000000) (h : hasDebt (chipsOf M (Dv d es f)) (q : Int) = false) : ∀ u, u < M → u ≠ q → 0 ≤ Dv d es f u := fun u hu huq => by
  have h1 : debtAt (chipsOf M (Dv d es f)) (q : Int) u = false := by
    rw [hasDebt, List.any_eq_false, chipsOf_len] at h
    simpa using h u (List.mem_range.2 hu)
  rw [debt_Dv hn hd hes hf hu] at h1
  have : ¬ (u : Int) = (q : Int) := by omega
  simp [this] at h1
  exact h1
end
def specF (d s : List Int) (es : List (Int × Int)) (k u : Nat) : Int := d.getD u 0 + terms s u (es.take k)
theorem specF_step (d s : List Int) {es : List (Int × Int)} {k a b : Nat} {sa sb : Int} (he : es[k]? = some ((a : Int), (b : Int))) (hab : a ≠ b) (ha : s[a]? = some sa) (hb : s[b]? = some sb) (u : Nat) :
    addAt (addAt (specF d s es k) a (sb - sa)) b (sa - sb) u = specF d s es (k + 1) u := by
  have h1 : s.getD a 0 = sa := by simp [List.getD, ha]
  have h2 : s.getD b 0 = sb := by simp [List.getD, hb]
  have hT := terms_snoc s u he
  have hterm : term s u ((a : Int), (b : Int)) = ind u a * (sb - sa) + ind u b * (sa - sb) := by simp only [term, Int.toNat_natCast, h1, h2]
  simp only [addAt, specF, hT, hterm]
  unfold ind
  by_cases e1 : u = b
  · subst e1
    rw [if_pos rfl, if_neg (Ne.symm hab), if_neg (by omega), if_pos rfl]
    omega
  · rw [if_neg e1]
    by_cases e2 : u = a
    · subst e2
      rw [if_pos rfl, if_pos rfl, if_neg (by omega)]
      omega
    · rw [if_neg e2, if_neg (by omega), if_neg (by omega)]
      omega
theorem specF_zero (d s : List Int) (es : List (Int × Int)) : specF d s es 0 = fun u => d.getD u 0 := by funext u; simp [specF, terms]
theorem specF_all (M : Nat) (d s : List Int) (es : List (Int × Int)) {k : Nat} (h : es.length ≤ k) : chipsOf M (specF d s es k) = firedB M es d s := chipsOf_eq fun u _ => by rw [specF, List.take_of_length_le h]
theorem wrap3 (x sa sb : Int) : wrap64 (wrap64 (wrap64 x - sa) + sb) = wrap64 (x + (sb - sa)) := by unfold wrap64; omega
theorem own_emptyF (w : World) (base : Nat) (hb : base ≤ w.heap.size) (t : TypeId) : (w.alloc (.cells #[] t)).ownsRow base t 1 (.slice (some ⟨w.heap.size, 0, none⟩) 0 0) 0 [] :=
  ⟨rfl, .inr ⟨w.heap.size, 0, #[], rfl, hb, heap_alloc_new w _, Nat.le_refl _, Nat.zero_le _, rfl, rfl⟩⟩

set_option maxRecDepth 100000 in
set_option maxHeartbeats 4000000 in
theorem l04Fire_any (N : Int) (M : Nat) (A D S : Option Addr) (c cd cs : Nat) (es : List (Int × Int)) (d s : List Int) (w : World) (hM0 : 0 < M) (hM6 : M ≤ 6) (hn : es.length ≤ 12) (hdl : d.length = M) (hsl : s.length = M)
    (hdw : ∀ x ∈ d, -9223372036854775808 ≤ x ∧ x ≤ 9223372036854775807) (hes : ∀ e ∈ es, 0 ≤ e.1 ∧ e.1 < e.2 ∧ e.2 < (M : Int)) (hE : EdgeS w w.heap.size A es) (hD : IntS w w.heap.size D d) (hS : IntS w w.heap.size S s) :
    Calls Try.prog 64 #[.agg #[.int .i64 N, .slice A es.length c], .slice D d.length cd, .slice S s.length cs] w (GivesInts w (firedB M es d s)) := by
  obtain ⟨i0, hi, hz0, hz1, hz2⟩ := info_parts intInfo
  obtain ⟨bd, od, rfl, hbd, hcd⟩ := hD (by omega)
  have hst := chips_start hdl hdw
  have HST := Lib.hid hst
  have HDL := Lib.hid hdl
  have HSL := Lib.hid hsl
  have HE := Lib.hid hE
  have HS := Lib.hid hS
  have HES := Lib.hid hes
  have HCD := Lib.hid hcd
  have hd6 : d.length ≤ 6 := by omega
  have hs6 : s.length ≤ 6 := by omega
  have hd0 : 0 < d.length := by omega
  have hO0 := own_emptyF (w.alloc (Obj.cells #[.int .i64 N, .slice A es.length c] 30)) w.heap.size (by simp) 3
  rw [World.size_alloc] at hO0
  have HO0 := Lib.hid hO0
  have hbA : Below w.heap.size w ((w.alloc (Obj.cells #[.int .i64 N, .slice A es.length c] 30)).alloc (Obj.cells #[] 3)) := ((Below.refl _ _).alloc (Nat.le_refl _) _).alloc (by simp) _
  clear hO0 hE hS hes hD hst hdl hsl hcd hdw
  go_enter Try.func64, Try.ntmps64
  go_wp2_with (at_builtin; refine wpList_append_own _ rfl _ _ 26 rfl w.heap.size 3 i0 (.int .i64 0) 1 8 Try.underlying26 hi hz0 hz1 hz2 rfl (by decide) _ _ _ rfl HO0.out ⟨bd, od, none⟩ d.length cd (intCells d) rfl ?c0 ?c1 ?c2 ?c3 ?c4 ?c5 ?_)
  case c0 => simp [intCells]
  case c1 =>
    intro j u hj
    simp only [intCells, List.getElem?_map, Option.map_eq_some_iff] at hj
    obtain ⟨z, hz, rfl⟩ := hj
    rw [Addr.add_lit]
    exact (hbA.cell (p := ⟨bd, od + j, none⟩) hbd).trans (HCD.out j z hz)
  case c2 =>
    intro u hu
    simp only [intCells, List.mem_map] at hu
    obtain ⟨z, _, rfl⟩ := hu
    rfl
  case c3 => unfold maxLen; omega
  case c4 => omega
  case c5 => simp; omega
  intro v' w1 hown hgrow _
  obtain ⟨g, cg, rfl, hg, hch⟩ := Chips.of_own (l := d) hown hd0
  have hb1 : Below w.heap.size w w1 := hbA.grown hgrow (by simp; omega) (fun q hq => (HO0.out.lt q hq).1)
  have hbx1 := ((Blk.new w 30 #[.int .i64 N, .slice A es.length c]).alloc (Obj.cells #[] 3)).moves (grownMv (g := w.heap.size + 1) hgrow) (.inl (by omega))
  have x1 : w1.cell? ⟨w.heap.size, 1, none⟩ = some (.slice A es.length c) := by rw [hbx1.cell]; rfl
  clear hbx1
  have hch0 := hch
  rw [← HST.out, ← specF_zero d s es] at hch0
  have HCH := Lib.hid hch0
  have HDM := Lib.hid (show d.length = M from HDL.out)
  clear hown hgrow hch hch0 hbA HCD
  go_wp2
  go_loopw [16] (fun i wr => ∃ k : Nat, k ≤ es.length ∧ i = .int .i64 k ∧ Chips wr g (chipsOf M (specF d s es k)) ∧ Below w.heap.size w wr) (fun i _ => es.length - (intOf i).toNat)
  case atStart => exact ⟨0, Nat.zero_le _, rfl, HCH.out, hb1⟩
  case round =>
    obtain ⟨k, hk, rfl, hcr, hb⟩ := hrel
    have HK := Lib.hid hcr
    clear hcr
    by_cases hlt : k < es.length
    · obtain ⟨b1, o1, e, rfl, hb1', he, hc0, hc1⟩ := (HE.out.below hb).at_ hlt
      obtain ⟨h1, h2, h3⟩ := HES.out e (List.mem_of_getElem? he)
      obtain ⟨x, y⟩ := e
      simp only at h1 h2 h3 hc0 hc1
      obtain ⟨a, rfl⟩ : ∃ a : Nat, x = (a : Int) := ⟨x.toNat, by omega⟩
      obtain ⟨b, rfl⟩ : ∃ b : Nat, y = (b : Int) := ⟨y.toNat, by omega⟩
      have haM : a < M := by omega
      have hbM : b < M := by omega
      have hab : a ≠ b := by omega
      obtain ⟨bs, os, sa, rfl, hbs, hsa, ea⟩ := (HS.out.below hb).at_ (k := a) (by have := HSL.out; omega)
      obtain ⟨bs2, os2, sb, hS2, _, hsb, eb⟩ := (HS.out.below hb).at_ (k := b) (by have := HSL.out; omega)
      injection hS2 with hS2
      injection hS2 with hS3 hS4
      subst hS3
      subst hS4
      have HF := Lib.hid (chipsOf_eq (M := M) fun u _ => specF_step d s he hab hsa hsb u)
      have hi0 : (0 : Int) ≤ (k : Int) := Int.natCast_nonneg _
      have hi1 : (k : Int) < (es.length : Int) := by omega
      have ha0 : (0 : Int) ≤ (a : Int) := Int.natCast_nonneg _
      have hb0 : (0 : Int) ≤ (b : Int) := Int.natCast_nonneg _
      have ha1 : (a : Int) < (d.length : Int) := by have := HDM.out; omega
      have hb2 : (b : Int) < (d.length : Int) := by have := HDM.out; omega
      have ha3 : (a : Int) < (s.length : Int) := by have := HSL.out; omega
      have hb3 : (b : Int) < (s.length : Int) := by have := HSL.out; omega
      have hbAA : Below wr.heap.size wr (wr.alloc (Obj.cells #[.int .i64 (a : Int), .int .i64 (b : Int)] 52)) := (Below.refl _ _).alloc (Nat.le_refl _) _
      have hblk0 := Blk.new wr 52 #[.int .i64 (a : Int), .int .i64 (b : Int)]
      have hC0 := HK.out.below hbAA
      have D0 := hb.alloc hb.size (Obj.cells #[.int .i64 (a : Int), .int .i64 (b : Int)] 52)
      have hbsw : bs < wr.heap.size := by have := hb.size; omega
      have hgw : g < wr.heap.size := HK.out.lt
      have ea0 := (hbAA.cell (p := ⟨bs, os + a, none⟩) hbsw).trans ea
      have eb0 := (hbAA.cell (p := ⟨bs, os + b, none⟩) hbsw).trans eb
      have C0 := Lib.hid hC0
      have BE := Lib.hid hblk0
      have HAB := Lib.hid hab
      have hbg : bs < g := by omega
      have hww : w.heap.size ≤ wr.heap.size := hb.size
      clear he hsa hsb ea eb hC0 hblk0 hbAA h1 h2 h3 hab hb1
      go_wp2_with fail
      obtain ⟨W0, hW0⟩ : ∃ X : World, X = wr.alloc (Obj.cells #[.int .i64 (a : Int), .int .i64 (b : Int)] 52) := ⟨_, rfl⟩
      rw [← hW0] at C0 BE D0 ea0 eb0 ⊢
      clear hW0 hc0 hc1
      have p0 : W0.cell? ⟨wr.heap.size, 0, none⟩ = some (.int .i64 (a : Int)) := by rw [BE.out.cell]; rfl
      have q0 : W0.cell? ⟨wr.heap.size, 1, none⟩ = some (.int .i64 (b : Int)) := by rw [BE.out.cell]; rfl
      obtain ⟨d0, f0⟩ := C0.out.cell a _ (chipsOf_at _ haM)
      have C1 := C0.out.set_ (a := a) (by rw [chipsOf_len]; exact haM) (wrap64 (wrap64 (wrap64 (specF d s es k a) - sa) + sb))
      rw [chipsOf_set M _ a _ (sb - sa) (wrap3 _ _ _)] at C1
      have C1' := Lib.hid (C1.below (Below.refl _ _).drew)
      clear C1
      have D1 := (D0.setCell (p := ⟨g, a, none⟩) hg (.int .i64 (wrap64 (wrap64 (wrap64 (specF d s es k a) - sa) + sb)))).drew
      have BE1 := Lib.hid ((BE.out.far (p := ⟨g, a, none⟩) (by simp only; omega) (.int .i64 (wrap64 (wrap64 (wrap64 (specF d s es k a) - sa) + sb)))).drew)
      have ea1 : (W0.setCell ⟨g, a, none⟩ (.int .i64 (wrap64 (wrap64 (wrap64 (specF d s es k a) - sa) + sb)))).drew.cell? ⟨bs, os + a, none⟩ = some (.int .i64 sa) := by
        show (W0.setCell _ _).cell? _ = _
        rw [World.cell?_setCell_other _ _ _ _ (by simp only [ne_eq, Addr.mk.injEq]; omega)]; exact ea0
      have eb1 : (W0.setCell ⟨g, a, none⟩ (.int .i64 (wrap64 (wrap64 (wrap64 (specF d s es k a) - sa) + sb)))).drew.cell? ⟨bs, os + b, none⟩ = some (.int .i64 sb) := by
        show (W0.setCell _ _).cell? _ = _
        rw [World.cell?_setCell_other _ _ _ _ (by simp only [ne_eq, Addr.mk.injEq]; omega)]; exact eb0
      obtain ⟨W1, hW1⟩ : ∃ X : World, X = (W0.setCell ⟨g, a, none⟩ (.int .i64 (wrap64 (wrap64 (wrap64 (specF d s es k a) - sa) + sb)))).drew := ⟨_, rfl⟩
      rw [← hW1] at C1' D1 BE1 ea1 eb1
      have HW1 := Lib.hid hW1
      clear hW1
      go_cut [16] from 16 to 62 (fun s16 wx => s16 = .int .i64 (k : Int) ∧ wx = W1)
      case first =>
        clear C1' D1 BE1 ea1 eb1 HF HE HS HES HST HDL HSL HO0 HCH HDM HK hb D0
        go_region
        go_wp2_with fail
        go_meet
        exact ⟨rfl, HW1.out.symm⟩
      case rest =>
        obtain ⟨rfl, rfl⟩ := hcut
        obtain ⟨V, rfl⟩ : ∃ V, V = wc := ⟨_, rfl⟩
        clear p0 q0 d0 f0 D0 ea0 eb0 C0 BE HW1
        have p1 : V.cell? ⟨wr.heap.size, 0, none⟩ = some (.int .i64 (a : Int)) := by rw [BE1.out.cell]; rfl
        have q1 : V.cell? ⟨wr.heap.size, 1, none⟩ = some (.int .i64 (b : Int)) := by rw [BE1.out.cell]; rfl
        obtain ⟨d1, f1⟩ := C1'.out.cell b _ (chipsOf_at _ hbM)
        have C2 := C1'.out.set_ (a := b) (by rw [chipsOf_len]; exact hbM) (wrap64 (wrap64 (wrap64 (addAt (specF d s es k) a (sb - sa) b) - sb) + sa))
        rw [chipsOf_set M _ b _ (sa - sb) (wrap3 _ _ _), HF.out] at C2
        have C2' := Lib.hid (C2.below (Below.refl _ _).drew)
        have D2 := Lib.hid ((D1.setCell (p := ⟨g, b, none⟩) hg (.int .i64 (wrap64 (wrap64 (wrap64 (addAt (specF d s es k) a (sb - sa) b) - sb) + sa)))).drew)
        clear C2 D1 HF
        clear C1' BE1 HE HS HES HST HSL HO0 HCH HK hb HAB
        go_wp2_with fail
        go_region
        go_wp2
        go_roundw
        case rel => exact ⟨k + 1, by omega, by go_num, C2'.out, D2.out⟩
        case measure => simp [intOf]; omega
    · have hK2 := HK.out
      rw [specF_all M d s es (by omega)] at hK2
      have HK2 := Lib.hid (hK2.own (base := w.heap.size) hg)
      have HFL := Lib.hid (firedB_len M es d s)
      clear hK2
      go_wp2
      go_ret
      exact ⟨some ⟨g, 0, none⟩, cg, by rw [HFL.out, ← HDM.out]; rfl, HK2.out, hb⟩
/-- what the reducing of the specification holds -/
structure RdW (w wr : World) (M : Nat) (A : Option Addr) (c : Nat) (es : List (Int × Int)) (d : List Int) (f : Nat → Int) (A9 : Option Addr) : Prop where
  box : GB w wr (M : Int) A c es
  scr : Chips wr (w.heap.size + 1) (chipsOf M f)
  out : OwnI wr (w.heap.size + 1 + 1) A9 (chipsOf M (Dv d es f))
section
variable {w wr w2 : World} {M : Nat} {A A9 : Option Addr} {c : Nat} {es : List (Int × Int)} {d : List Int} {f g : Nat → Int}
theorem RdW.next (h : RdW w wr M A c es d f A9) (hb : Below wr.heap.size wr w2) : RdW w w2 M A c es d f A9 := ⟨h.box.next hb, h.scr.below hb, h.out.below hb⟩
theorem RdW.size (h : RdW w wr M A c es d f A9) : w.heap.size + 1 + 1 ≤ wr.heap.size := h.scr.lt
theorem RdW.fired (h1 : GB w wr (M : Int) A c es) (h2 : Chips wr (w.heap.size + 1) (chipsOf M f)) (hb : Below wr.heap.size wr w2) {A2 : Option Addr} (ho : OwnI w2 wr.heap.size A2 (chipsOf M (Dv d es f))) : RdW w w2 M A c es d f A2 :=
  ⟨h1.next hb, h2.below hb, ho.mono h2.lt⟩
theorem GB.store (h : GB w wr (M : Int) A c es) (v : Nat) (x : Value) : GB w (wr.setCell ⟨w.heap.size + 1, v, none⟩ x) (M : Int) A c es := ⟨h.box.far (by simp only; omega) _, h.old.setCell (by simp only; omega) _⟩
end
/-- a reduced divisor and its script, both new memory -/
def GivesRed (w : World) (M : Nat) (es : List (Int × Int)) (d : List Int) (q : Nat) (e : Ending) (w' : World) : Prop :=
  ∃ (A1 A2 : Option Addr) (c1 c2 : Nat) (f : Nat → Int), e = .returned (.tuple #[.slice A1 M c1, .slice A2 M c2]) ∧ IsRed M es d q f ∧ OwnI w' w.heap.size A1 (chipsOf M (Dv d es f)) ∧ OwnI w' w.heap.size A2 (chipsOf M f) ∧ Below w.heap.size w w'
theorem chips_cell {w : World} {g M v : Nat} {f : Nat → Int} (h : Chips w g (chipsOf M f)) (hv : v < M) (hf : -1000000000 ≤ f v ∧ f v ≤ 1000000000) : w.cell? ⟨g, v, none⟩ = some (.int .i64 (f v)) ∧ w.frozen? ⟨g, v, none⟩ = false := by
  have := h.cell v _ (chipsOf_at f hv)
  rw [wrap64_of (by omega) (by omega)] at this
  exact this
theorem chips_store {w : World} {g M v : Nat} {f : Nat → Int} (h : Chips w g (chipsOf M f)) (hv : v < M) (t : Int) (hf : -1000000000 ≤ f v + t ∧ f v + t ≤ 1000000000) : Chips (w.setCell ⟨g, v, none⟩ (.int .i64 (f v + t))) g (chipsOf M (addAt f v t)) := by
  have := h.set_ (a := v) (by rw [chipsOf_len]; exact hv) (f v + t)
  rw [chipsOf_set M f v (f v + t) t (wrap64_of (by omega) (by omega)).symm] at this
  exact this

set_option maxRecDepth 100000 in
set_option maxHeartbeats 8000000 in
theorem l05ReduceW_any (A D : Option Addr) (c cd M q : Nat) (es : List (Int × Int)) (d : List Int) (w : World) (hM0 : 0 < M) (hM : M ≤ 6) (hq : q < M) (hd : d.length = M) (hn : es.length ≤ 12) (hes : ∀ e ∈ es, 0 ≤ e.1 ∧ e.1 < e.2 ∧ e.2 < (M : Int)) (hdb : ∀ u, -100 ≤ d.getD u 0 ∧ d.getD u 0 ≤ 100) (hc : Cut M es)
    (hE : EdgeS w w.heap.size A es) (hS : IntS w w.heap.size D d) :
    Calls Try.prog 51 #[.agg #[.int .i64 (M : Int), .slice A es.length c], .slice D d.length cd, .int .i64 (q : Int)] w (GivesRed w M es d q) := by
  obtain ⟨i0, hi, hz0, hz1, hz2⟩ := info_parts intInfo
  obtain ⟨σ, hw⟩ := wt_exists hM hn hq hes hc
  have hmk := make_ints M (by omega)
  obtain ⟨bd, od, rfl, hbd, hcd⟩ := hS (by omega)
  have hdw : ∀ x ∈ d, -9223372036854775808 ≤ x ∧ x ≤ 9223372036854775807 := fun x hx => by
    obtain ⟨i, hi⟩ := List.getElem?_of_mem hx
    have := hdb i
    simp [List.getD, hi] at this
    omega
  have FI := fun (f : Nat → Int) (w' : World) (hf : ∀ u, u < M → -1000000000 ≤ f u ∧ f u ≤ 1000000000) (hb : Below w.heap.size w w') (hC : Chips w' (w.heap.size + 1) (chipsOf M f)) =>
    Lib.hid (show Calls Try.prog 64 #[.agg #[.int .i64 (M : Int), .slice A es.length c], .slice (some ⟨bd, od, none⟩) M cd, .slice (some ⟨w.heap.size + 1, 0, none⟩) M M] w' (fun e w'' => ∃ (A2 : Option Addr) (c2 : Nat), e = .returned (.slice A2 M c2) ∧ OwnI w'' w'.heap.size A2 (chipsOf M (Dv d es f)) ∧ Below w'.heap.size w' w'') from by
      have h := l04Fire_any (M : Int) M A (some ⟨bd, od, none⟩) (some ⟨w.heap.size + 1, 0, none⟩) c cd M es d (chipsOf M f) w' hM0 hM hn hd (chipsOf_len M f) hdw hes (hE.up_ hb) (hS.up_ hb) hC.ints
      rw [chipsOf_len, hd] at h
      refine h.mono ?_
      rintro e w'' ⟨A2, c2, rfl, ho, hbb⟩
      rw [fired_Dv hes hf] at ho
      exact ⟨A2, c2, by rw [firedB_len], ho, hbb⟩)
  have DBT := fun (f : Nat → Int) (A9 : Option Addr) (c9 : Nat) (w' : World) (B : Nat) (hI : OwnI w' B A9 (chipsOf M (Dv d es f))) =>
    Lib.hid (show Calls Try.prog 63 #[.slice A9 M c9, .int .i64 (q : Int)] w' (fun e w'' => e = .returned (.bool (hasDebt (chipsOf M (Dv d es f)) (q : Int))) ∧ w'' = w') from by
      have h := l05Debt_any A9 c9 w'.heap.size (chipsOf M (Dv d es f)) (q : Int) w' (by rw [chipsOf_len]; omega) hI.ints
      rw [chipsOf_len] at h
      exact h)
  have BRN := fun (f : Nat → Int) (A9 : Option Addr) (c9 : Nat) (w' : World) (B : Nat) (hb : Below w.heap.size w w') (hI : OwnI w' B A9 (chipsOf M (Dv d es f))) =>
    Lib.hid (show Calls Try.prog 65 #[.agg #[.int .i64 (M : Int), .slice A es.length c], .slice A9 M c9, .int .i64 (q : Int)] w' (GivesInts w' (burntL M es (chipsOf M (Dv d es f)) (q : Int))) from by
      have h := l05Burn_any A A9 c c9 M q es (chipsOf M (Dv d es f)) w' hM0 hM hq (chipsOf_len _ _) hn hes (hE.up_ hb) hI.ints
      rw [chipsOf_len] at h
      exact h)
  have HN := Lib.hid hn
  have HW := Lib.hid hw
  have HES := Lib.hid hes
  have HDB := Lib.hid hdb
  have HDL := Lib.hid hd
  rw [hd]
  have HST := Lib.hid (chips_start hd hdw)
  have hM1 : (0 : Int) ≤ (M : Int) := Int.natCast_nonneg _
  have hM7 : (M : Int) ≤ 6 := by omega
  have HCD := Lib.hid hcd
  -- the first world: box, script, an empty slice
  obtain ⟨W0, hW0⟩ : ∃ X : World, X = (w.alloc (.cells #[.int .i64 (M : Int), .slice A es.length c] 30)).alloc (.cells (intCells (List.replicate M 0)).toArray 3) := ⟨_, rfl⟩
  have hs0 : W0.heap.size = w.heap.size + 1 + 1 := by rw [hW0]; simp
  have g0 : GB w W0 (M : Int) A c es := by
    rw [hW0]
    exact (GB.start w (M : Int) A c es).next ((Below.refl _ _).alloc (Nat.le_refl _) _)
  have g1 : Chips W0 (w.heap.size + 1) (chipsOf M fun _ => 0) := by
    have h1 := Blk.new (w.alloc (.cells #[.int .i64 (M : Int), .slice A es.length c] 30)) 3 (intCells (List.replicate M 0)).toArray
    rw [← hW0, World.size_alloc, chips_zero] at h1
    exact Chips.of_blk h1
  have hO0 := own_emptyF W0 (w.heap.size + 1 + 1) (by omega) 3
  rw [hs0] at hO0
  have hbA : Below W0.heap.size W0 (W0.alloc (Obj.cells #[] 3)) := (Below.refl _ _).alloc (Nat.le_refl _) _
  rw [hW0] at hO0
  have HO0 := Lib.hid hO0
  have HG0 := Lib.hid (g0.next hbA)
  have HC0 := Lib.hid (g1.below hbA)
  have HW0 := Lib.hid hW0
  have HS0 := Lib.hid hs0
  clear hO0 hE hS hes hdb hd hcd hdw hw hW0 g0 g1 hbA hs0 hc
  go_enter Try.func51, Try.ntmps51
  go_wp2_with (at_builtin; refine wpList_append_own _ rfl _ _ 26 rfl (w.heap.size + 1 + 1) 3 i0 (.int .i64 0) 1 8 Try.underlying26 hi hz0 hz1 hz2 rfl (by decide) _ _ _ rfl HO0.out ⟨bd, od, none⟩ M cd (intCells d) rfl ?k0 ?k1 ?k2 ?k3 ?k4 ?k5 ?_)
  case k0 => simp [intCells, HDL.out]
  case k1 =>
    intro j u hj
    simp only [intCells, List.getElem?_map, Option.map_eq_some_iff] at hj
    obtain ⟨z, hz, rfl⟩ := hj
    rw [Addr.add_lit]
    have := HCD.out j z hz
    exact ((((Below.refl w.heap.size w).alloc (Nat.le_refl _) _).alloc (by simp) _).alloc (by simp; omega) _ |>.cell (p := ⟨bd, od + j, none⟩) hbd).trans this
  case k2 =>
    intro u hu
    simp only [intCells, List.mem_map] at hu
    obtain ⟨z, _, rfl⟩ := hu
    rfl
  case k3 => unfold maxLen; omega
  case k4 => omega
  case k5 => simp
  intro v' w1 hown hgrow _
  obtain ⟨g, cg, rfl, hg, hch⟩ := Chips.of_own (l := d) hown (by omega)
  have hR1 : RdW w w1 M A c es d (fun _ => 0) (some ⟨g, 0, none⟩) := by
    rw [← HW0.out] at hgrow
    have hs1 := HS0.out
    refine ⟨⟨HG0.out.box.grown hgrow (fun hq => ?_), HG0.out.old.grown hgrow HG0.out.old.size (fun q hq => ?_)⟩, ?_, ?_⟩
    · have := (HO0.out.lt _ hq).1
      omega
    · have := (HO0.out.lt _ hq).1
      omega
    · refine ⟨Nat.lt_of_lt_of_le HC0.out.lt hgrow.size, fun i z hz => ?_⟩
      have hk := hgrow.block (w.heap.size + 1) HC0.out.lt (fun hq => by
        have := (HO0.out.lt _ hq.symm).1
        omega)
      obtain ⟨a1, a2⟩ := HC0.out.cell i z hz
      exact ⟨(World.cell?_of_block (a := ⟨w.heap.size + 1, i, none⟩) hk).trans a1, (World.frozen?_of_block (a := ⟨w.heap.size + 1, i, none⟩) hk).trans a2⟩
    · rw [show chipsOf M (Dv d es fun _ => 0) = d from by
        rw [← HST.out]
        exact chipsOf_eq fun u _ => by rw [HST.out, Dv, termsF_zero (fun _ => rfl)]; omega]
      exact hch.own hg
  have HR1 := Lib.hid hR1
  have HP1 := Lib.hid (Ph1.start (M := M) (es := es) (d := d) (q := q) HDB.out)
  clear hR1 hown hgrow hch HO0 HG0 HC0 HW0 HS0 HST HCD hmk hi hz0 hz1 hz2
  go_wp2
  go_loopg [9, 10] 27145200 (fun gk s9 _ wr => ∃ (A9 : Option Addr) (c9 : Nat) (f : Nat → Int), s9 = .slice A9 M c9 ∧ Hid ((gk : Int) = 27145200 + sumV f M) ∧ Hid (Ph1 M es d q f) ∧ Hid (RdW w wr M A c es d f A9))
  case atStart => exact ⟨some ⟨g, 0, none⟩, cg, fun _ => 0, by simp, Lib.hid (by rw [sumV_const]; simp), HP1, HR1⟩
  case round =>
    obtain ⟨A9, c9, f, rfl, HG, HP, HR⟩ := hrel
    clear HR1 HP1
    have HF := Lib.hid (HP.out.wide HW.out hM HES.out HDB.out)
    have HX := DBT f A9 c9 wr _ HR.out.out
    cases hdt : hasDebt (chipsOf M (Dv d es f)) (q : Int) with
    | true =>
      rw [hdt] at HX
      have HDT := Lib.hid hdt
      clear hdt
      obtain ⟨gx, rfl⟩ : ∃ gx : Nat, gx = gk := ⟨_, rfl⟩
      obtain ⟨wo, rfl⟩ : ∃ wo : World, wo = wr := ⟨_, rfl⟩
      go_wp2_with fail
      refine HX.out.mono ?_
      rintro e w2 ⟨rfl, rfl⟩
      go_wp2
      go_loopg [9, 10, 24] M (fun gj s9 _ s24 wx => ∃ (k : Nat) (A8 : Option Addr) (c8 : Nat) (f2 : Nat → Int), k ≤ M ∧ gj + k = M ∧ s24 = .int .i64 k ∧ s9 = .slice A8 M c8 ∧ Hid ((f2 = f ∧ ∀ j, j < k → debtAt (chipsOf M (Dv d es f)) (q : Int) j = false) ∨ sumV f2 M < sumV f M) ∧ Hid (Ph1 M es d q f2) ∧ Hid (RdW w wx M A c es d f2 A8))
      case atStart => exact ⟨0, A9, c9, f, Nat.zero_le _, by omega, rfl, rfl, Lib.hid (.inl ⟨rfl, fun j hj => absurd hj (by omega)⟩), HP, HR⟩
      case round =>
        obtain ⟨k, A8, c8, f2, hk, hgk, rfl, rfl, HJ, HP2, HR2⟩ := hrel
        have HF2 := Lib.hid (HP2.out.wide HW.out hM HES.out HDB.out)
        have HJL := Lib.hid (show sumV f2 M ≤ sumV f M from by
          rcases HJ.out with ⟨rfl, _⟩ | h
          · exact Int.le_refl _
          · omega)
        clear HX
        by_cases hlt : k < M
        · have hi0 : (0 : Int) ≤ (k : Int) := Int.natCast_nonneg _
          have hi1 : (k : Int) < (M : Int) := by omega
          obtain ⟨b8, o8, hA8, hb8, hl8, hc8⟩ := HR2.out.out (by rw [chipsOf_len]; exact hM0)
          have hx := (hc8 k _ (chipsOf_at _ hlt)).1
          have hxb := Dv_bound (M := M) (f := f2) (d := d) HN.out (fun u => by have := HDB.out u; omega) HES.out HF2.out k
          rw [wrap64_of (by omega) (by omega)] at hx
          obtain ⟨hs1, hs2⟩ := chips_cell HR2.out.scr hlt (HF2.out k hlt)
          have hyb := HP2.out.low HW.out hM HES.out HDB.out k hlt
          have HDK := Lib.hid (show debtAt (chipsOf M (Dv d es f2)) (q : Int) k = (!decide ((k : Int) = (q : Int)) && decide (Dv d es f2 k < 0)) from debt_Dv HN.out HDB.out HES.out HF2.out hlt)
          obtain ⟨x, hxx⟩ : ∃ x, x = Dv d es f2 k := ⟨_, rfl⟩
          obtain ⟨y, hyy⟩ : ∃ y, y = f2 k := ⟨_, rfl⟩
          rw [← hxx] at hx hxb HDK
          rw [← hyy] at hs1 hyb
          have HXX := Lib.hid hxx
          have HYY := Lib.hid hyy
          subst hA8
          clear hc8 hxx hyy hb8 hl8
          by_cases hkq : k = q
          · have t1 : ((k : Int) != (q : Int)) = false := by simp [hkq]
            have HJ2 : Hid ((f2 = f ∧ ∀ j, j < k + 1 → debtAt (chipsOf M (Dv d es f)) (q : Int) j = false) ∨ sumV f2 M < sumV f M) := Lib.hid (by
              rcases HJ.out with ⟨rfl, h⟩ | h
              · refine .inl ⟨rfl, fun j hj => ?_⟩
                by_cases e : j = k
                · rw [e, HDK.out]; simp [hkq]
                · exact h j (by omega)
              · exact .inr h)
            clear hkq
            go_wp2
            go_roundg (gk - 1)
            case measure => omega
            case rel => exact ⟨k + 1, _, c8, f2, by omega, by omega, by go_num, rfl, HJ2, HP2, HR2⟩
          · have t1 : ((k : Int) != (q : Int)) = true := by simp; omega
            by_cases hx0 : x < 0
            · have t2 : decide (x < 0) = true := decide_eq_true hx0
              have HP3 := Lib.hid (HP2.out.one HN.out HES.out hkq (by rw [← HXX.out]; exact hx0))
              have hcs := chips_store HR2.out.scr hlt (-1) (by rw [← HYY.out]; omega)
              rw [← HYY.out, show y + -1 = y - 1 by omega] at hcs
              have HF3 := Lib.hid (HP3.out.wide HW.out hM HES.out HDB.out)
              have gb3 := HR2.out.box.store k (.int .i64 (y - 1))
              have HFI := FI _ _ HF3.out gb3.old hcs
              have HS3 := Lib.hid (show sumV (addAt f2 k (-1)) M < sumV f M from by
                rw [sumV_addAt, if_pos hlt]
                have := HJL.out
                omega)
              have hc0 := HR2.out.box.c0
              have hc1 := HR2.out.box.c1
              have HGB := Lib.hid gb3
              have HCS := Lib.hid hcs
              have hd0 := gb3.c0
              have hd1 := gb3.c1
              clear hkq hx0 hcs gb3
              go_wp2_with fail
              refine HFI.out.mono ?_
              rintro e w3 ⟨A3, c3, rfl, ho3, hb3⟩
              have HR3 := Lib.hid (RdW.fired HGB.out HCS.out hb3 ho3)
              clear ho3 hb3 hs1 hs2 hx HFI HGB HCS hc0 hc1 hd0 hd1
              go_wp2
              go_roundg (gk - 1)
              case measure => omega
              case rel => exact ⟨k + 1, A3, c3, addAt f2 k (-1), by omega, by omega, by go_num, rfl, Lib.hid (.inr HS3.out), HP3, HR3⟩
            · have t2 : decide (x < 0) = false := decide_eq_false hx0
              have HJ2 : Hid ((f2 = f ∧ ∀ j, j < k + 1 → debtAt (chipsOf M (Dv d es f)) (q : Int) j = false) ∨ sumV f2 M < sumV f M) := Lib.hid (by
                rcases HJ.out with ⟨rfl, h⟩ | h
                · refine .inl ⟨rfl, fun j hj => ?_⟩
                  by_cases e : j = k
                  · rw [e, HDK.out]; simp [t2]
                  · exact h j (by omega)
                · exact .inr h)
              clear hkq hx0
              go_wp2
              go_roundg (gk - 1)
              case measure => omega
              case rel => exact ⟨k + 1, _, c8, f2, by omega, by omega, by go_num, rfl, HJ2, HP2, HR2⟩
        · have HLT := Lib.hid (show sumV f2 M < sumV f M from by
            rcases HJ.out with ⟨rfl, h⟩ | h
            · have h1 := HDT.out
              rw [hasDebt, List.any_eq_true, chipsOf_len] at h1
              obtain ⟨j, hj, h2⟩ := h1
              rw [h j (by have := List.mem_range.1 hj; omega)] at h2
              cases h2
            · exact h)
          have HLO := Lib.hid (HP2.out.sum HW.out hM HES.out HDB.out)
          go_wp2
          go_roundg (27145200 + sumV f2 M).toNat
          case measure =>
            have h1 := HG.out
            have h2 := HLT.out
            have h3 := HLO.out
            omega
          case rel => exact ⟨A8, c8, f2, rfl, Lib.hid (by have := HLO.out; omega), HP2, HR2⟩
    | false =>
      rw [hdt] at HX
      have HP2 := Lib.hid (HP.out.end_ HW.out hM HES.out HDB.out (noDebt HN.out HDB.out HES.out HF.out hdt))
      have HSM := Lib.hid (HP2.out.sum HW.out hM HES.out)
      clear hdt HP HF
      go_wp2_with fail
      refine HX.out.mono ?_
      rintro e w2 ⟨rfl, rfl⟩
      clear HX HG
      go_wp2
      go_loopg [9, 11, 12] (13572600 - sumV f M).toNat (fun gk s9 _ _ wr => ∃ (A9 : Option Addr) (c9 : Nat) (f : Nat → Int), s9 = .slice A9 M c9 ∧ Hid ((gk : Int) = 13572600 - sumV f M) ∧ Hid (Ph2 M es d q σ f) ∧ Hid (RdW w wr M A c es d f A9))
      case atStart => exact ⟨A9, c9, f, rfl, Lib.hid (by have := HSM.out; omega), HP2, HR⟩
      case round =>
        clear HP2 HSM HR
        obtain ⟨A9, c9, f, rfl, HG, HP, HR⟩ := hrel
        have HF := Lib.hid (HP.out.high HW.out hM HES.out)
        have HB := BRN f A9 c9 wr _ HR.out.box.old HR.out.out
        have hbt := burntL_all (M := M) (es := es) (d := chipsOf M (Dv d es f)) (q := (q : Int)) (by omega)
        have HPN := Lib.hid (HP.out.one HW.out hM HN.out hq HDB.out HES.out)
        obtain ⟨bs, hbs⟩ : ∃ x, x = burntL M es (chipsOf M (Dv d es f)) (q : Int) := ⟨_, rfl⟩
        rw [← hbs] at HB hbt HPN
        have HBU := Lib.hid hbt.1
        have hbl := hbt.1.len
        have HBS := Lib.hid hbs
        have c0 := HR.out.box.c0
        have c1 := HR.out.box.c1
        obtain ⟨gx, rfl⟩ : ∃ gx : Nat, gx = gk := ⟨_, rfl⟩
        obtain ⟨wo, rfl⟩ : ∃ wo : World, wo = wr := ⟨_, rfl⟩
        clear hbt hbs
        go_wp2_with fail
        refine HB.out.mono ?_
        rintro e w2 ⟨Ab, cb, rfl, hob, hb2⟩
        have HR2 := Lib.hid (HR.out.next hb2)
        have HOB := Lib.hid (hob.mono HR.out.size)
        clear hob hb2 HB c0 c1
        have c0 := HR2.out.box.c0
        by_cases hl : bs.length = M
        · have t1 : ((bs.length : Int) == (M : Int)) = true := by simp [hl]
          have HIR := Lib.hid (HP.out.red HW.out hM HES.out (by rw [← HBS.out]; exact hl))
          clear hl
          go_wp2
          go_ret2
          exact ⟨A9, some ⟨w.heap.size + 1, 0, none⟩, c9, M, f, rfl, HIR.out, HR2.out.out.mono (by omega), HR2.out.scr.own (by omega), HR2.out.box.old⟩
        · have t1 : ((bs.length : Int) == (M : Int)) = false := by rw [beq_eq_false_iff_ne]; omega
          have HMO := Lib.hid (Ph2.more HBU.out hl)
          clear hl
          go_wp2
          go_loopg [12] M (fun gj s12 wx => ∃ k : Nat, k ≤ M ∧ gj + k = M ∧ s12 = .int .i64 k ∧ Hid (GB w wx (M : Int) A c es) ∧ Hid (Chips wx (w.heap.size + 1) (chipsOf M (addSet f (upU bs k) 1))) ∧ Hid (OwnI wx (w.heap.size + 1 + 1) Ab bs))
          case atStart => exact ⟨0, Nat.zero_le _, by omega, rfl, Lib.hid HR2.out.box, Lib.hid (by rw [upU_zero]; exact HR2.out.scr), HOB⟩
          case round =>
            obtain ⟨k, hk, hgk, rfl, HGB, HCS, HOB2⟩ := hrel
            clear c0
            have c0 := HGB.out.c0
            by_cases hlt : k < M
            · have hi0 : (0 : Int) ≤ (k : Int) := Int.natCast_nonneg _
              have hi1 : (k : Int) < (M : Int) := by omega
              have HL := Lib.hid (l02Has_any Ab cb bs (k : Int) wr (by omega) HOB2.out.ints)
              rw [inL_contains] at HL
              cases hc : inL bs (k : Int) with
              | true =>
                rw [hc] at HL
                have HC2 := HCS.out
                rw [← upU_in f hc] at HC2
                have HC3 := Lib.hid HC2
                clear hc HC2
                go_wp2_with fail
                refine HL.out.mono ?_
                rintro e w3 ⟨rfl, rfl⟩
                go_wp2
                go_roundg (gk - 1)
                case measure => omega
                case rel => exact ⟨k + 1, by omega, by omega, by go_num, HGB, HC3, HOB2⟩
              | false =>
                rw [hc] at HL
                have hy0 := HF.out k hlt
                have hat : addSet f (upU bs k) 1 k = f k := upU_at f
                obtain ⟨hs1, hs2⟩ := chips_cell HCS.out hlt (by rw [hat]; exact hy0)
                have hcs := chips_store HCS.out hlt 1 (by
                  rw [hat]
                  have h1 := (HPN.out.high HW.out hM HES.out k hlt).2
                  unfold addSet upU at h1
                  rw [if_pos (by simp [hc]; omega)] at h1
                  omega)
                rw [← upU_out f hc, hat] at hcs
                rw [hat] at hs1
                obtain ⟨y, hyy⟩ : ∃ y, y = f k := ⟨_, rfl⟩
                rw [← hyy] at hs1 hcs hy0
                have HC3 := Lib.hid hcs
                have HG3 := Lib.hid (HGB.out.store k (.int .i64 (y + 1)))
                have hmv : Moves (w.heap.size + 1) (w.heap.size + 1 + 1) wr (wr.setCell ⟨w.heap.size + 1, k, none⟩ (.int .i64 (y + 1))) := (Moves.refl _ _ _).set_ k _
                have HO3 := Lib.hid (HOB2.out.moves hmv (Nat.le_refl _))
                clear hc hat hcs hyy hmv
                go_wp2_with fail
                refine HL.out.mono ?_
                rintro e w3 ⟨rfl, rfl⟩
                go_wp2
                go_roundg (gk - 1)
                case measure => omega
                case rel => exact ⟨k + 1, by omega, by omega, by go_num, HG3, HC3, HO3⟩
            · have hkM : k = M := by omega
              have HC2 := HCS.out
              rw [hkM] at HC2
              have HC3 := Lib.hid HC2
              have HF3 := Lib.hid (HPN.out.high HW.out hM HES.out)
              have HFI := FI _ _ HF3.out HGB.out.old HC3.out
              have HS3 := Lib.hid (addSet_sum (M := M) (f := f) (U := upU bs M) (t := 1) (by omega) HMO.out)
              have HS4 := Lib.hid (HPN.out.sum HW.out hM HES.out)
              have c1 := HGB.out.c1
              clear HC2 hkM
              go_wp2_with fail
              refine HFI.out.mono ?_
              rintro e w3 ⟨A3, c3, rfl, ho3, hb3⟩
              have HR3 := Lib.hid (RdW.fired HGB.out HC3.out hb3 ho3)
              clear ho3 hb3 c0 c1
              go_wp2
              go_roundg (13572600 - sumV (addSet f (upU bs M) 1) M).toNat
              case measure =>
                have h1 := HG.out
                have h2 := HS3.out
                have h3 := HS4.out
                omega
              case rel => exact ⟨A3, c3, _, rfl, Lib.hid (by have := HS4.out; omega), HPN, HR3⟩
theorem nets_neg {v : Nat} : ∀ {es : List (Int × Int)}, (∀ e ∈ es, e.1 < e.2) → (∃ e ∈ es, (v : Int) = e.1 ∨ (v : Int) = e.2) → nets (v : Int) v es ≤ -1
  | [], _, ⟨e, he, _⟩ => by simp at he
  | e :: l, h, ⟨x, hx, hv⟩ => by
    have h1 := h e (by simp)
    have h2 := (nets_self v l (fun x hx => h x (by simp [hx]))).2
    have key : net (v : Int) v e ≤ 0 := by
      unfold net ind
      repeat' split
      all_goals omega
    rw [List.mem_cons] at hx
    rw [nets]
    rcases hx with rfl | hx
    · have : net (v : Int) v x ≤ -1 := by
        unfold net ind
        repeat' split
        all_goals omega
      omega
    · have ih := nets_neg (es := l) (fun x hx => h x (by simp [hx])) ⟨x, hx, hv⟩
      omega
theorem val_pos {M : Nat} {es : List (Int × Int)} {v q : Nat} (hc : Cut M es) (hes : ∀ e ∈ es, 0 ≤ e.1 ∧ e.1 < e.2 ∧ e.2 < (M : Int)) (hv : v < M) (hq : q < M) (hne : v ≠ q) : nets (v : Int) v es ≤ -1 := by
  refine nets_neg (fun e he => (hes e he).2.1) ?_
  obtain ⟨e, he, h⟩ := hc (fun x => decide (x = (v : Int))) ⟨(v : Int), by omega, by omega, by simp⟩ ⟨(q : Int), by omega, by omega, by simp; omega⟩
  refine ⟨e, he, ?_⟩
  by_cases h1 : e.1 = (v : Int)
  · exact .inl h1.symm
  · by_cases h2 : e.2 = (v : Int)
    · exact .inr h2.symm
    · simp [h1, h2] at h
theorem net_self {v : Nat} {e : Int × Int} (h : e.1 < e.2) : net (v : Int) v e = if (v : Int) = e.1 ∨ (v : Int) = e.2 then -1 else 0 := by
  unfold net ind
  repeat' split
  all_goals omega
set_option maxRecDepth 100000 in
set_option maxHeartbeats 2000000 in
theorem valence_any (pb cA v B : Nat) (A : Option Addr) (G : Value) (es : List (Int × Int)) (w : World) (hBw : B ≤ w.heap.size) (hn : es.length ≤ 12) (hes : ∀ e ∈ es, e.1 < e.2) (hB : Blk w pb 68 #[.slice A es.length cA, G]) (hE : EdgeS w B A es) :
    Calls Try.prog 70 #[.pointer (some ⟨pb, 0, none⟩), .int .i64 (v : Int)] w fun e w' => e = .returned (.int .i64 (-nets (v : Int) v es)) ∧ Below w.heap.size w w' := by
  have q0 : w.cell? ⟨pb, 0, none⟩ = some (.slice A es.length cA) := by rw [hB.cell]; rfl
  have HE := Lib.hid hE
  have HES := Lib.hid hes
  clear hE hes hB
  go_enter Try.func70, Try.ntmps70
  go_wp2
  go_loopw [5, 13] (fun n i wr => ∃ k : Nat, k ≤ es.length ∧ i = .int .i64 k ∧ n = .int .i64 (-nets (v : Int) v (es.take k)) ∧ Below w.heap.size w wr) (fun _ i _ => es.length - (intOf i).toNat)
  case atStart => exact ⟨0, Nat.zero_le _, rfl, by simp [nets], Below.refl _ _⟩
  case round =>
    obtain ⟨k, hk, rfl, rfl, hb⟩ := hrel
    have HB := Lib.hid hb
    have hbw := hb.size
    clear hb q0
    by_cases hlt : k < es.length
    · obtain ⟨b1, o1, e, rfl, hb1, he, hc0, hc1⟩ := (HE.out.keep (fun p hp => HB.out.cell (by omega)) (Nat.le_refl _)).at_ hlt
      have hlt2 := HES.out e (List.mem_of_getElem? he)
      have hi0 : (0 : Int) ≤ (k : Int) := Int.natCast_nonneg _
      have hi1 : (k : Int) < (es.length : Int) := by omega
      have hns := nets_self v (es.take k) (fun x hx => HES.out x (List.mem_of_mem_take hx))
      have hnk : (es.take k).length ≤ 12 := by rw [List.length_take]; omega
      have HN := Lib.hid ((nets_snoc (v : Int) v he).trans (by rw [net_self hlt2]))
      have HBA := Lib.hid (HB.out.alloc HB.out.size (Obj.cells #[.int .i64 e.1, .int .i64 e.2] 52))
      obtain ⟨x, hx⟩ : ∃ x, x = nets (v : Int) v (es.take k) := ⟨_, rfl⟩
      rw [← hx] at hns HN ⊢
      have hx0 : -12 ≤ x := by omega
      have hx1 : x ≤ 0 := hns.2
      have hx2 : 0 ≤ -x := by omega
      have hx3 : -x ≤ 12 := by omega
      clear hx he hns hnk hlt2
      by_cases h1 : e.1 = (v : Int)
      · have t1 : (e.1 == (v : Int)) = true := by simp [h1]
        have HN2 := Lib.hid (HN.out.trans (by rw [if_pos (.inl h1.symm)]))
        clear h1
        go_wp2
        exact ⟨⟨k + 1, by omega, by go_num, by rw [HN2.out]; congr 1; omega, HBA.out⟩, by simp [intOf]; omega⟩
      · have t1 : (e.1 == (v : Int)) = false := by simp [h1]
        by_cases h2 : e.2 = (v : Int)
        · have t2 : (e.2 == (v : Int)) = true := by simp [h2]
          have HN2 := Lib.hid (HN.out.trans (by rw [if_pos (.inr h2.symm)]))
          clear h1 h2
          go_wp2
          exact ⟨⟨k + 1, by omega, by go_num, by rw [HN2.out]; congr 1; omega, HBA.out⟩, by simp [intOf]; omega⟩
        · have t2 : (e.2 == (v : Int)) = false := by simp [h2]
          have HN2 := Lib.hid (HN.out.trans (by rw [if_neg (by omega)]))
          clear h1 h2
          go_wp2
          exact ⟨⟨k + 1, by omega, by go_num, by rw [HN2.out]; congr 1; omega, HBA.out⟩, by simp [intOf]; omega⟩
    · have HQ := Lib.hid (show es.take k = es from List.take_of_length_le (by omega))
      rw [HQ.out]
      go_wp2
      go_ret
      exact ⟨rfl, HB.out⟩

/-- the program's reduction: its box, its board, the chips and the script -/
structure RdI (wr : World) (B pr pb g cg gs M q : Nat) (A : Option Addr) (cA : Nat) (es : List (Int × Int)) (d : List Int) (f : Nat → Int) : Prop where
  red : Blk wr pr 71 #[.pointer (some ⟨pb, 0, none⟩), .int .i64 (q : Int), .slice (some ⟨gs, 0, none⟩) M M]
  brd : Blk wr pb 68 #[.slice A es.length cA, .slice (some ⟨g, 0, none⟩) M cg]
  chips : Chips wr g (chipsOf M (Dv d es f))
  scr : Chips wr gs (chipsOf M f)
/-- where its blocks lie -/
structure RdN (B pr pb g gs : Nat) : Prop where
  n1 : B ≤ g
  n2 : B ≤ gs
  n3 : B ≤ pb
  n4 : B ≤ pr
  e1 : g ≠ gs
  e2 : g ≠ pb
  e3 : g ≠ pr
  e4 : gs ≠ pb
  e5 : gs ≠ pr
theorem RdI.below {wr w2 : World} {B pr pb g cg gs M q : Nat} {A : Option Addr} {cA : Nat} {es : List (Int × Int)} {d : List Int} {f : Nat → Int} (h : RdI wr B pr pb g cg gs M q A cA es d f) (hb : Below wr.heap.size wr w2) : RdI w2 B pr pb g cg gs M q A cA es d f :=
  ⟨h.red.below hb h.red.lt, h.brd.below hb h.brd.lt, h.chips.below hb, h.scr.below hb⟩
set_option maxRecDepth 100000 in
set_option maxHeartbeats 2000000 in
theorem fireR_any (B pr pb g cg gs M q v : Nat) (A : Option Addr) (cA : Nat) (es : List (Int × Int)) (d : List Int) (f : Nat → Int) (t : Int) (w : World) (hBw : B ≤ w.heap.size) (hv : v < M) (hn : es.length ≤ 12) (hes : ∀ e ∈ es, 0 ≤ e.1 ∧ e.1 < e.2 ∧ e.2 < (M : Int)) (hE : EdgeS w B A es) (hN : RdN B pr pb g gs) (hR : RdI w B pr pb g cg gs M q A cA es d f) :
    Calls Try.prog 71 #[.pointer (some ⟨pr, 0, none⟩), .int .i64 (v : Int), .int .i64 t] w fun e w' => e = .returned (.tuple #[]) ∧ RdI w' B pr pb g cg gs M q A cA es d (addAt f v t) ∧ Below B w w' ∧ (∀ i, i < w.heap.size → i ≠ g → i ≠ gs → w'.heap[i]? = w.heap[i]?) := by
  have q2 : w.cell? ⟨pr, 2, none⟩ = some (.slice (some ⟨gs, 0, none⟩) M M) := by rw [hR.red.cell]; rfl
  have q0 : w.cell? ⟨pr, 0, none⟩ = some (.pointer (some ⟨pb, 0, none⟩)) := by rw [hR.red.cell]; rfl
  obtain ⟨d0, f0⟩ := hR.scr.cell v _ (chipsOf_at f hv)
  have hC1 := hR.scr.set_ (a := v) (by rw [chipsOf_len]; exact hv) (wrap64 (wrap64 (f v) + t))
  rw [chipsOf_set M f v _ t (wrap64_addL _ _)] at hC1
  have hm1 : Moves gs (gs + 1) w (w.setCell ⟨gs, v, none⟩ (.int .i64 (wrap64 (wrap64 (f v) + t)))) := (Moves.refl _ _ _).set_ v _
  have hN1 := hN.e1
  have hN2 := hN.e2
  have hN3 := hN.e3
  have hN4 := hN.e4
  have hN5 := hN.e5
  have hr1 := hR.red.moves hm1 (by omega)
  have hb1 := hR.brd.moves hm1 (by omega)
  have hc1 := hR.chips.moves hm1 (by omega)
  have hbl1 := hm1.below hN.n2 hBw
  have hsz : B ≤ (w.setCell ⟨gs, v, none⟩ (.int .i64 (wrap64 (wrap64 (f v) + t)))).heap.size := by simp [World.setCell]; exact hBw
  have hE1 := hE.keep (fun p hp => hbl1.cell (by omega)) (Nat.le_refl _)
  have FR := Lib.hid (fire_any pb g M cg cA B A es (Dv d es f) (v : Int) t _ (Ne.symm hN2) hN.n1 hsz hn hes hb1 hc1 hE1)
  have HF : Hid (chipsOf M (fireF (Dv d es f) (v : Int) t es) = chipsOf M (Dv d es (addAt f v t))) := Lib.hid (chipsOf_eq fun u _ => by rw [Dv_addAt d f v t u (fun e he => ⟨(hes e he).1, (hes e he).2.1⟩), fireF])
  have p0 : (w.setCell ⟨gs, v, none⟩ (.int .i64 (wrap64 (wrap64 (f v) + t)))).cell? ⟨pr, 0, none⟩ = some (.pointer (some ⟨pb, 0, none⟩)) := by rw [hr1.cell]; rfl
  have hv0 : (0 : Int) ≤ (v : Int) := Int.natCast_nonneg _
  have hv1 : (v : Int) < (M : Int) := by omega
  have HR1 := Lib.hid hr1
  have HB1 := Lib.hid hb1
  have HC1 := Lib.hid hC1
  have HBL := Lib.hid hbl1
  have HSZ := Lib.hid hsz
  have HNN := Lib.hid hN
  have HMV := Lib.hid hm1
  clear hr1 hb1 hc1 hC1 hbl1 hsz hm1 hE1 hE hR hN hN1 hN2 hN3 hN4 hN5 hes q0
  have hn1 := HNN.out.e5
  go_enter Try.func71, Try.ntmps71
  go_wp2_with fail
  refine FR.out.mono ?_
  rintro e w2 ⟨rfl, hc2, hm2⟩
  rw [HF.out] at hc2
  have a1 := HNN.out.e1
  have a2 := HNN.out.e2
  have a3 := HNN.out.e3
  have HR2 := Lib.hid (show RdI w2 B pr pb g cg gs M q A cA es d (addAt f v t) from ⟨HR1.out.moves hm2 (by omega), HB1.out.moves hm2 (by omega), hc2, HC1.out.moves hm2 (by omega)⟩)
  have HB2 := Lib.hid (belowMoves HBL.out hm2 HNN.out.n1 HSZ.out)
  have HK2 := Lib.hid (show ∀ i, i < w.heap.size → i ≠ g → i ≠ gs → w2.heap[i]? = w.heap[i]? from fun i hi h1 h2 => (hm2.block i (Nat.lt_of_lt_of_le hi HMV.out.size) (by omega)).trans (HMV.out.block i hi (by omega)))
  clear hc2 hm2 a1 a2 a3
  go_wp2
  go_end0
  exact ⟨rfl, HR2.out, HB2.out, HK2.out⟩
theorem borrow_k {x V : Int} (hx : x < 0) (hx2 : -1000000000000 ≤ x) (hV : 1 ≤ V) (hV2 : V ≤ 12) : 1 ≤ (-x + V - 1).tdiv V ∧ (-x + V - 1).tdiv V ≤ 2000000000000 ∧ x + (-x + V - 1).tdiv V * V ≤ 100 := by
  have h0 : 0 ≤ -x + V - 1 := by omega
  rw [Int.tdiv_eq_ediv_of_nonneg h0]
  have h1 := Int.ediv_mul_le (-x + V - 1) (show V ≠ 0 by omega)
  have h2 : 1 ≤ (-x + V - 1) / V := by
    rw [Int.le_ediv_iff_mul_le (by omega)]
    omega
  have h3 : (-x + V - 1) / V ≤ (-x + V - 1) := Int.ediv_le_self _ h0
  omega
set_option maxRecDepth 100000 in
set_option maxHeartbeats 4000000 in
theorem payDebts_any (B pr pb g cg gs M q : Nat) (A : Option Addr) (cA : Nat) (es : List (Int × Int)) (d : List Int) (w : World) (hM : M ≤ 6) (hq : q < M) (hn : es.length ≤ 12) (hes : ∀ e ∈ es, 0 ≤ e.1 ∧ e.1 < e.2 ∧ e.2 < (M : Int)) (hdb : ∀ u, -100 ≤ d.getD u 0 ∧ d.getD u 0 ≤ 100) (hc : Cut M es)
    (hBw : B ≤ w.heap.size) (hE : EdgeS w B A es) (hN : RdN B pr pb g gs) (hR : RdI w B pr pb g cg gs M q A cA es d (fun _ => 0)) :
    Calls Try.prog 55 #[.pointer (some ⟨pr, 0, none⟩)] w fun e w' => e = .returned (.tuple #[]) ∧ ∃ f, Ph1 M es d q f ∧ hasDebt (chipsOf M (Dv d es f)) (q : Int) = false ∧ RdI w' B pr pb g cg gs M q A cA es d f ∧ Below B w w' := by
  obtain ⟨σ, hw⟩ := wt_exists hM hn hq hes hc
  have HN := Lib.hid hn
  have HW := Lib.hid hw
  have HES := Lib.hid hes
  have HDB := Lib.hid hdb
  have HCU := Lib.hid hc
  have HE := Lib.hid hE
  have HNN := Lib.hid hN
  have HR := Lib.hid hR
  have HP := Lib.hid (Ph1.start (M := M) (es := es) (d := d) (q := q) hdb)
  have hBz := hBw
  have hq0 : (0 : Int) ≤ (q : Int) := Int.natCast_nonneg _
  clear hw hes hdb hc hE hN hR
  go_enter Try.func55, Try.ntmps55
  go_wp2
  go_loopg [2, 3, 4] 27145200 (fun gk _ _ _ wr => ∃ (f : Nat → Int), Hid ((gk : Int) = 27145200 + sumV f M) ∧ Hid (Ph1 M es d q f) ∧ Hid (RdI wr B pr pb g cg gs M q A cA es d f) ∧ Hid (Below B w wr) ∧ Hid (B ≤ wr.heap.size))
  case atStart => exact ⟨fun _ => 0, Lib.hid (by rw [sumV_const]; simp), HP, HR, Lib.hid (Below.refl _ _), Lib.hid hBz⟩
  case round =>
    clear HP HR
    obtain ⟨f, HG, HP, HR, HBL, HSZ⟩ := hrel
    have HF := Lib.hid (HP.out.wide HW.out hM HES.out HDB.out)
    have HX := fun (w' : World) (hb : Below wr.heap.size wr w') => Lib.hid (show Calls Try.prog 69 #[.slice (some ⟨g, 0, none⟩) M cg, .int .i64 (q : Int)] w' (fun e w'' => e = .returned (.int .i64 (debtor (chipsOf M (Dv d es f)) (q : Int))) ∧ w'' = w') from by
      have h := debtorBeside_any (some ⟨g, 0, none⟩) cg w'.heap.size (chipsOf M (Dv d es f)) (q : Int) w' (by rw [chipsOf_len]; omega) (HR.out.chips.below hb).ints
      rw [chipsOf_len] at h
      exact h)
    have r0 : wr.cell? ⟨pr, 0, none⟩ = some (.pointer (some ⟨pb, 0, none⟩)) := by rw [HR.out.red.cell]; rfl
    have r1 : wr.cell? ⟨pr, 1, none⟩ = some (.int .i64 (q : Int)) := by rw [HR.out.red.cell]; rfl
    have r2 : wr.cell? ⟨pb, 1, none⟩ = some (.slice (some ⟨g, 0, none⟩) M cg) := by rw [HR.out.brd.cell]; rfl
    rcases debtor_cases (chipsOf M (Dv d es f)) (q : Int) with ⟨h1, h2, _⟩ | ⟨v, hv, h1, h2, h3, _⟩
    · rw [h1] at HX
      have HH := Lib.hid h2
      clear h1 h2
      go_wp2_with fail
      go_quiet (first | (go_at_call 69; exact Calls.quiet_of_same (HX _ (below_drewN (Below.refl _ _) _)).out))
      go_wp2
      refine bodyPost_ret (results_none rfl _ _ _) rfl ?_
      exact ⟨rfl, f, HP.out, HH.out, HR.out.below (below_drewN (Below.refl _ _) _), below_drewN HBL.out _⟩
    · rw [chipsOf_len] at hv
      rw [h1] at HX
      rw [debt_Dv HN.out HDB.out HES.out HF.out hv] at h3
      simp only [Bool.and_eq_true, Bool.not_eq_true', decide_eq_true_eq, decide_eq_false_iff_not] at h3
      obtain ⟨h4, hx⟩ := h3
      have hvq : v ≠ q := by omega
      have hxb := Dv_bound (M := M) (f := f) (d := d) HN.out (fun u => by have := HDB.out u; omega) HES.out HF.out v
      have hVs := nets_self v es (fun e he => (HES.out e he).2.1)
      have hVp := val_pos HCU.out HES.out hv hq hvq
      have hxc := (HR.out.chips.cell v _ (chipsOf_at _ hv)).1
      rw [wrap64_of (by omega) (by omega)] at hxc
      have hk := borrow_k (x := Dv d es f v) (V := -nets (v : Int) v es) hx hxb.1 (by omega) (by have := HN.out; omega)
      have HP2 := Lib.hid (HP.out.step HES.out (v := v) (k := (-Dv d es f v + -nets (v : Int) v es - 1).tdiv (-nets (v : Int) v es)) hvq (by omega) hk.2.2)
      have VAL := fun (w' : World) (hb : Below wr.heap.size wr w') => Lib.hid (valence_any pb cA v B A (.slice (some ⟨g, 0, none⟩) M cg) es w' (Nat.le_trans HSZ.out hb.size) HN.out (fun e he => (HES.out e he).2.1) (HR.out.brd.below hb HR.out.brd.lt) (HE.out.keep (fun p hp => (HBL.out.trans (hb.mono HSZ.out)).cell (by omega)) (Nat.le_refl _)))
      have FIR := fun (t : Int) (w' : World) (hb : Below wr.heap.size wr w') => Lib.hid (fireR_any B pr pb g cg gs M q v A cA es d f t w' (Nat.le_trans HSZ.out hb.size) hv HN.out HES.out (HE.out.keep (fun p hp => (HBL.out.trans (hb.mono HSZ.out)).cell (by omega)) (Nat.le_refl _)) HNN.out (HR.out.below hb))
      obtain ⟨x, hxx⟩ : ∃ x, x = Dv d es f v := ⟨_, rfl⟩
      obtain ⟨V, hVV⟩ : ∃ V, V = -nets (v : Int) v es := ⟨_, rfl⟩
      rw [← hVV] at VAL hk HP2
      rw [← hxx] at hx hxb hxc hk HP2
      have hV1 : 1 ≤ V := by omega
      have hV2 : V ≤ 12 := by have := HN.out; omega
      have HS2 := Lib.hid (show sumV (addAt f v (-(-x + V - 1).tdiv V)) M = sumV f M + -(-x + V - 1).tdiv V from by rw [sumV_addAt, if_pos hv])
      obtain ⟨hk1, hk2, _⟩ := hk
      have hv0 : (0 : Int) ≤ (v : Int) := Int.natCast_nonneg _
      have hv1 : (v : Int) < (M : Int) := by omega
      have hV3 : V ≠ 0 := by omega
      have hV4 : (V == 0) = false := by simp; omega
      clear h1 h2 h4 hvq hVs hVp hxx hVV
      go_wp2_with fail
      go_quiet (first | (go_at_call 69; exact Calls.quiet_of_same (HX _ (below_drewN (Below.refl _ _) _)).out))
      go_wp2_with fail
      refine (VAL _ (below_drewN (Below.refl _ _) _)).out.mono ?_
      rintro e w2 ⟨rfl, hb2⟩
      have hb3 : Below wr.heap.size wr w2 := (below_drewN (Below.refl _ _) nq).trans hb2
      have s0 : w2.cell? ⟨pr, 0, none⟩ = some (.pointer (some ⟨pb, 0, none⟩)) := by rw [(HR.out.red.below hb3 HR.out.red.lt).cell]; rfl
      have s2 : w2.cell? ⟨pb, 1, none⟩ = some (.slice (some ⟨g, 0, none⟩) M cg) := by rw [(HR.out.brd.below hb3 HR.out.brd.lt).cell]; rfl
      have s3 : w2.cell? ⟨g, v, none⟩ = some (.int .i64 x) := (hb3.cell (p := ⟨g, v, none⟩) HR.out.chips.lt).trans hxc
      have HB3 := Lib.hid hb3
      have hx0 : 0 ≤ -x := by omega
      have hx1 : -x ≤ 1000000000000 := by omega
      clear hb2 hb3 VAL HX r0 r1 r2 hxc
      go_wp2_with fail
      refine (FIR _ w2 HB3.out).out.mono ?_
      rintro e w4 ⟨rfl, hr4, hb4, _⟩
      have HR4 := Lib.hid hr4
      have HB4 := Lib.hid ((HBL.out.trans (HB3.out.mono HSZ.out)).trans hb4)
      have HZ4 := Lib.hid (Nat.le_trans (Nat.le_trans HSZ.out HB3.out.size) hb4.size)
      have HL4 := Lib.hid (HP2.out.sum HW.out hM HES.out HDB.out)
      clear hr4 hb4 s0 s2 s3 FIR
      go_wp2
      go_roundg (27145200 + sumV (addAt f v (-(-x + V - 1).tdiv V)) M).toNat
      case measure =>
        have a1 := HG.out
        have a2 := HS2.out
        have a3 := HL4.out
        omega
      case rel => exact ⟨_, Lib.hid (by have := HL4.out; omega), HP2, HR4, HB4, HZ4⟩
/-- a number of firings that the first vertices of a set allow -/
def Allow (c h : Nat → Int) (l : List Int) (T : Int) : Prop := 1 ≤ T ∧ T ≤ 9223372036854775807 ∧ ∀ v : Nat, (v : Int) ∈ l → 0 < h v → T ≤ (c v).tdiv (h v)
theorem Allow.start (c h : Nat → Int) : Allow c h [] 9223372036854775807 := ⟨by omega, by omega, fun v hv => by simp at hv⟩
theorem Allow.skip {c h : Nat → Int} {l : List Int} {T : Int} {v : Nat} (a : Allow c h l T) (hv : ¬ 0 < h v) : Allow c h (l ++ [(v : Int)]) T := ⟨a.1, a.2.1, fun u hu hp => by
  rw [List.mem_append, List.mem_singleton] at hu
  rcases hu with hu | hu
  · exact a.2.2 u hu hp
  · rw [show u = v by omega] at hp
    exact absurd hp hv⟩
theorem quo_pos {x y : Int} (hy : 0 < y) (h : y ≤ x) : 1 ≤ x.tdiv y ∧ x.tdiv y ≤ x ∧ x.tdiv y * y ≤ x := by
  rw [Int.tdiv_eq_ediv_of_nonneg (by omega)]
  have h1 := Int.ediv_mul_le x (show y ≠ 0 by omega)
  have h2 : 1 ≤ x / y := by
    rw [Int.le_ediv_iff_mul_le hy]
    omega
  have h3 : x / y ≤ x := Int.ediv_le_self _ (by omega)
  exact ⟨h2, h3, h1⟩
theorem Allow.take {c h : Nat → Int} {l : List Int} {T : Int} {v : Nat} (a : Allow c h l T) (hv : 0 < h v) (hc : h v ≤ c v) : Allow c h (l ++ [(v : Int)]) (min T ((c v).tdiv (h v))) := by
  have hq := quo_pos hv hc
  refine ⟨by have := a.1; omega, by have := a.2.1; omega, fun u hu hp => ?_⟩
  rw [List.mem_append, List.mem_singleton] at hu
  rcases hu with hu | hu
  · have := a.2.2 u hu hp
    omega
  · rw [show u = v by omega]
    omega
theorem take_snocK {l : List Int} {k : Nat} {x : Int} (h : l[k]? = some x) : l.take (k + 1) = l.take k ++ [x] := by rw [List.take_add_one, h]; rfl
set_option maxRecDepth 100000 in
set_option maxHeartbeats 4000000 in
theorem firings_any (B base pf gh ch pb M g cg : Nat) (E : Value) (S : Option Addr) (cs BS : Nat) (f h : Nat → Int) (ord l : List Int) (w : World) (hM : M ≤ 6) (hl : l.length ≤ 6) (hlb : ∀ x ∈ l, 0 ≤ x ∧ x < (M : Int))
    (hf : ∀ u, u < M → -1000000000000 ≤ f u ∧ f u ≤ 1000000000000) (hh : ∀ u, 0 ≤ h u ∧ h u ≤ 24) (hc : ∀ v : Nat, (v : Int) ∈ l → h v ≤ f v)
    (hB : Blk w pb 68 #[E, .slice (some ⟨g, 0, none⟩) M cg]) (hC : Chips w g (chipsOf M f)) (hS : IntS w BS S l) (hBS : BS ≤ w.heap.size) (hZ : Blaze w B base pf gh ch pb M ord h) :
    Calls Try.prog 74 #[.pointer (some ⟨pf, 0, none⟩), .slice S l.length cs] w fun e w' => (∃ T, e = .returned (.int .i64 T) ∧ Allow f h l T) ∧ Below w.heap.size w w' := by
  obtain ⟨O, co, hbx, hown⟩ := hZ.box
  have HBX := Lib.hid hbx
  have HB := Lib.hid hB
  have HC := Lib.hid hC
  have HS := Lib.hid hS
  have HH := Lib.hid hZ.heat
  have HF := Lib.hid hf
  have HHB := Lib.hid hh
  have HLB := Lib.hid hlb
  have HCC := Lib.hid hc
  clear hbx hB hC hS hZ hf hh hlb hc hown
  go_enter Try.func74, Try.ntmps74
  go_wp2
  go_loopw [5, 7, 10] (fun t _ i wr => ∃ (k : Nat) (T : Int), k ≤ l.length ∧ i = .int .i64 k ∧ t = .int .i64 T ∧ Allow f h (l.take k) T ∧ Below w.heap.size w wr) (fun _ _ i _ => l.length - (intOf i).toNat)
  case atStart => exact ⟨0, _, Nat.zero_le _, rfl, rfl, Allow.start f h, Below.refl _ _⟩
  case round =>
    obtain ⟨k, T, hk, rfl, rfl, hal, hb⟩ := hrel
    have HAL := Lib.hid hal
    have HBW := Lib.hid hb
    clear hal hb
    by_cases hlt : k < l.length
    · obtain ⟨b1, o1, x, rfl, hb1, he, hc0⟩ := (HS.out.keep (fun p hp => HBW.out.cell (by omega)) (Nat.le_refl _)).at_ hlt
      have hi0 : (0 : Int) ≤ (k : Int) := Int.natCast_nonneg _
      have hi1 : (k : Int) < (l.length : Int) := by omega
      obtain ⟨hx0, hx1⟩ := HLB.out x (List.mem_of_getElem? he)
      obtain ⟨v, rfl⟩ : ∃ v : Nat, x = (v : Int) := ⟨x.toNat, by omega⟩
      have hvM : v < M := by omega
      have hcc := HCC.out v (List.mem_of_getElem? he)
      have HT := Lib.hid (take_snocK he)
      have hx6 : (v : Int) ≤ 6 := by omega
      have p2 : wr.cell? ⟨pf, 2, none⟩ = some (.slice (some ⟨gh, 0, none⟩) M ch) := by rw [(HBX.out.below HBW.out HBX.out.lt).cell]; rfl
      have p0 : wr.cell? ⟨pf, 0, none⟩ = some (.pointer (some ⟨pb, 0, none⟩)) := by rw [(HBX.out.below HBW.out HBX.out.lt).cell]; rfl
      have p3 : wr.cell? ⟨pb, 1, none⟩ = some (.slice (some ⟨g, 0, none⟩) M cg) := by rw [(HB.out.below HBW.out HB.out.lt).cell]; rfl
      have hhv := HHB.out v
      have hfv := HF.out v hvM
      have p4 : wr.cell? ⟨gh, v, none⟩ = some (.int .i64 (h v)) := by
        have := ((HH.out.below HBW.out).cell v _ (chipsOf_at _ hvM)).1
        rw [wrap64_of (by omega) (by omega)] at this
        exact this
      have p5 : wr.cell? ⟨g, v, none⟩ = some (.int .i64 (f v)) := by
        have := ((HC.out.below HBW.out).cell v _ (chipsOf_at _ hvM)).1
        rw [wrap64_of (by omega) (by omega)] at this
        exact this
      have hT1 := HAL.out.1
      have hT2 := HAL.out.2.1
      have HSK := Lib.hid (fun (hn : ¬ 0 < h v) => HAL.out.skip hn)
      have HTK := Lib.hid (fun (hn : 0 < h v) => HAL.out.take hn hcc)
      have HQ := Lib.hid (fun (hn : 0 < h v) => quo_pos hn hcc)
      rw [← HT.out] at HSK HTK
      obtain ⟨y, hy⟩ : ∃ y, y = h v := ⟨_, rfl⟩
      obtain ⟨z, hz⟩ : ∃ z, z = f v := ⟨_, rfl⟩
      rw [← hy] at p4 hhv HSK HTK HQ hcc
      rw [← hz] at p5 hfv HTK HQ hcc
      clear he hy hz
      by_cases hpos : 0 < y
      · have t1 : decide (0 < y) = true := decide_eq_true hpos
        have HTK2 := Lib.hid (HTK.out hpos)
        obtain ⟨hq1, hq2, _⟩ := HQ.out hpos
        have hq3 : 0 ≤ z.tdiv y := by omega
        have hq4 : z.tdiv y ≤ 1000000000000 := by omega
        have hy0 : y ≠ 0 := by omega
        have hy1 : (y == 0) = false := by simp; omega
        clear HSK HTK HQ
        go_wp2_with fail
        go_region
        go_wp2
        exact ⟨⟨k + 1, _, by omega, by go_num, rfl, HTK2.out, HBW.out.drew⟩, by simp [intOf]; omega⟩
      · have t1 : decide (0 < y) = false := decide_eq_false hpos
        have HSK2 := Lib.hid (HSK.out hpos)
        clear HSK HTK HQ hpos
        go_wp2
        exact ⟨⟨k + 1, T, by omega, by go_num, rfl, HSK2.out, HBW.out⟩, by simp [intOf]; omega⟩
    · have hal := HAL.out
      rw [List.take_of_length_le (by omega)] at hal
      have HA2 := Lib.hid hal
      clear hal
      go_wp2
      go_ret
      exact ⟨⟨T, rfl, HA2.out⟩, HBW.out⟩
theorem inL_up (M : Nat) (bs : List Int) (f : Nat → Int) (t : Int) : addSet f (inL (sparedL M bs)) t = addSet f (upU bs M) t := by
  funext u
  unfold addSet
  have : inL (sparedL M bs) (u : Int) = upU bs M (u : Int) := by
    rw [Bool.eq_iff_iff]
    simp only [inL, upU, decide_eq_true_eq, sparedL_mem, Bool.and_eq_true, Bool.not_eq_true', decide_eq_false_iff_not]
    constructor
    · rintro ⟨_, h2, h3⟩
      exact ⟨h3, h2⟩
    · rintro ⟨h1, h2⟩
      exact ⟨by omega, h2, h1⟩
  rw [this]
theorem inL_take {l : List Int} {k v : Nat} (f : Nat → Int) (t : Int) (h : l[k]? = some (v : Int)) (hn : l.Nodup) : addAt (addSet f (inL (l.take k)) t) v t = addSet f (inL (l.take (k + 1))) t := by
  have hnm : ¬ (v : Int) ∈ l.take k := fun hm => by
    have h3 : (l.take (k + 1)).Nodup := hn.sublist (List.take_sublist _ _)
    rw [take_snocK h, List.nodup_append] at h3
    exact absurd rfl (h3.2.2 _ hm _ (by simp))
  funext u
  rw [take_snocK h]
  unfold addAt addSet
  by_cases e : u = v
  · subst e
    simp [inL, hnm]
  · have : ¬ (u : Int) = (v : Int) := by omega
    simp [inL, e, this]
theorem inL_zero (f : Nat → Int) (t : Int) : addSet f (inL []) t = f := by
  funext u
  simp [addSet, inL]
theorem OwnI.keep_ {w w' : World} {base : Nat} {A : Option Addr} {zs : List Int} (h : OwnI w base A zs) (hs : w.heap.size ≤ w'.heap.size) (hk : ∀ i, i < w.heap.size → base ≤ i → w'.heap[i]? = w.heap[i]?) : OwnI w' base A zs := fun hn => by
  obtain ⟨k, off, e, h1, hl, hc⟩ := h hn
  have hbl := hk k hl h1
  exact ⟨k, off, e, h1, Nat.lt_of_lt_of_le hl hs, fun i z hz => ⟨(World.cell?_of_block (a := ⟨k, off + i, none⟩) hbl).trans (hc i z hz).1, (World.frozen?_of_block (a := ⟨k, off + i, none⟩) hbl).trans (hc i z hz).2⟩⟩
theorem keepRd {w W w2 : World} {p r : Addr} {a b : Value} (hS : W.cell? p = some a ∧ W.cell? r = some b ∧ Below w.heap.size w W) (hb : Below W.heap.size W w2) (hp : p.block < w.heap.size) (hr : r.block < w.heap.size) : w2.cell? p = some a ∧ w2.cell? r = some b ∧ Below w.heap.size w w2 := by
  obtain ⟨h1, h2, h5⟩ := hS
  have hz := h5.size
  exact ⟨(hb.cell (by omega)).trans h1, (hb.cell (by omega)).trans h2, h5.trans (hb.mono hz)⟩
section
variable {M : Nat} {es : List (Int × Int)} {d : List Int} {q : Nat} {f : Nat → Int} {σ : Nat → Int}
/-- some spared vertex has an edge to the fire -/
theorem spared_hot {bs : List Int} (hc : Cut M es) (hes : ∀ e ∈ es, 0 ≤ e.1 ∧ e.1 < e.2 ∧ e.2 < (M : Int)) (hb : Burns M (q : Int) bs) (hne : sparedL M bs ≠ []) : ∃ v : Nat, v < M ∧ (v : Int) ∈ sparedL M bs ∧ 0 < heat (inL bs) v es := by
  apply Classical.byContradiction
  intro hno
  have hall := hc.all hes hb fun v hv hnb => by
    apply Classical.byContradiction
    intro hp
    exact hno ⟨v, hv, sparedL_mem.2 ⟨by omega, by omega, hnb⟩, by omega⟩
  obtain ⟨x, hx⟩ := List.exists_mem_of_ne_nil _ hne
  obtain ⟨h1, h2, h3⟩ := sparedL_mem.1 hx
  have := hall x.toNat (by omega)
  rw [show ((x.toNat : Nat) : Int) = x by omega] at this
  exact h3 this
theorem spared_nil {bs : List Int} (hb : Burns M (q : Int) bs) (h : sparedL M bs = []) : bs.length = M :=
  hb.full_iff.2 fun v hv => by
    apply Classical.byContradiction
    intro hn
    have := sparedL_mem.2 ⟨Int.natCast_nonneg v, show (v : Int) < (M : Int) by omega, hn⟩
    rw [h] at this
    cases this
end
set_option maxRecDepth 100000 in
set_option maxHeartbeats 8000000 in
theorem fireSpared_any (B pr pb g cg gs M q : Nat) (A : Option Addr) (cA : Nat) (es : List (Int × Int)) (d : List Int) (f0 : Nat → Int) (σ : Nat → Int) (w : World) (hM0 : 0 < M) (hM : M ≤ 6) (hq : q < M) (hn : es.length ≤ 12) (hes : ∀ e ∈ es, 0 ≤ e.1 ∧ e.1 < e.2 ∧ e.2 < (M : Int)) (hdb : ∀ u, -100 ≤ d.getD u 0 ∧ d.getD u 0 ≤ 100) (hc : Cut M es) (hw : Wt M es q σ)
    (hBw : B ≤ w.heap.size) (hE : EdgeS w B A es) (hN : RdN B pr pb g gs) (hP : Ph2 M es d q σ f0) (hR : RdI w B pr pb g cg gs M q A cA es d f0) :
    Calls Try.prog 56 #[.pointer (some ⟨pr, 0, none⟩)] w fun e w' => e = .returned (.tuple #[]) ∧ ∃ f, IsRed M es d q f ∧ RdI w' B pr pb g cg gs M q A cA es d f ∧ Below B w w' := by
  have HN := Lib.hid hn
  have HW := Lib.hid hw
  have HES := Lib.hid hes
  have HDB := Lib.hid hdb
  have HCU := Lib.hid hc
  have HE := Lib.hid hE
  have HNN := Lib.hid hN
  have HR := Lib.hid hR
  have HP := Lib.hid hP
  have HSM := Lib.hid (hP.sum hw hM hes)
  have hBz := hBw
  have hq0 : (0 : Int) ≤ (q : Int) := Int.natCast_nonneg _
  clear hw hes hdb hc hE hN hR hP
  go_enter Try.func56, Try.ntmps56
  go_wp2
  go_loopg [2, 3, 4, 6, 26] (13572600 - sumV f0 M).toNat (fun gk _ _ _ _ _ wr => ∃ (f : Nat → Int), Hid ((gk : Int) = 13572600 - sumV f M) ∧ Hid (Ph2 M es d q σ f) ∧ Hid (RdI wr B pr pb g cg gs M q A cA es d f) ∧ Hid (Below B w wr) ∧ Hid (B ≤ wr.heap.size))
  case atStart => exact ⟨f0, Lib.hid (by have := HSM.out; omega), HP, HR, Lib.hid (Below.refl _ _), Lib.hid hBz⟩
  case round =>
    clear HP HR HSM
    obtain ⟨f, HG, HP, HR, HBL, HSZ⟩ := hrel
    have HF := Lib.hid (HP.out.high HW.out hM HES.out)
    have BRN := fun (w' : World) (hb : Below wr.heap.size wr w') => Lib.hid (show Calls Try.prog 72 #[.pointer (some ⟨pb, 0, none⟩), .int .i64 (q : Int)] w' (fun e w'' => ∃ (base pf gh ch : Nat) (h : Nat → Int), e = .returned (.pointer (some ⟨pf, 0, none⟩)) ∧ Blaze w'' w'.heap.size base pf gh ch pb M (burntL M es (chipsOf M (Dv d es f)) (q : Int)) h ∧ HeatIs es (burntL M es (chipsOf M (Dv d es f)) (q : Int)) h ∧ Below w'.heap.size w' w'') from burn_any pb g cg cA M q A es (chipsOf M (Dv d es f)) w' hM0 hM hq (chipsOf_len _ _) HN.out HES.out (Nat.lt_of_lt_of_le HR.out.brd.lt hb.size) (HR.out.brd.below hb HR.out.brd.lt) (HR.out.chips.below hb) (HE.out.keep (fun p hp => (HBL.out.trans (hb.mono HSZ.out)).cell (by omega)) (Nat.le_trans HSZ.out hb.size)))
    have hbt := burntL_all (M := M) (es := es) (d := chipsOf M (Dv d es f)) (q := (q : Int)) (by omega)
    have HPN := fun (t : Int) (ht : 0 ≤ t) (h : ∀ v : Nat, v < M → ¬ (v : Int) ∈ burntL M es (chipsOf M (Dv d es f)) (q : Int) → t * heat (inL (burntL M es (chipsOf M (Dv d es f)) (q : Int))) v es ≤ Dv d es f v) => Lib.hid (HP.out.next HW.out hq HES.out ht h)
    have HCN := Lib.hid (fun (v : Nat) (hv : v < M) (hnb : ¬ (v : Int) ∈ burntL M es (chipsOf M (Dv d es f)) (q : Int)) => show heat (inL (burntL M es (chipsOf M (Dv d es f)) (q : Int))) v es ≤ Dv d es f v from by
      have h1 := nextV_no hbt.2 v hv
      simp only [catchV, Bool.and_eq_false_iff, decide_eq_false_iff_not, Bool.not_eq_false'] at h1
      rw [Dv_get HN.out HDB.out HES.out HF.out hv] at h1
      rcases h1 with g | g
      · omega
      · exact absurd (by simpa [inL] using g) hnb)
    have HRD := Lib.hid (fun (hl : (burntL M es (chipsOf M (Dv d es f)) (q : Int)).length = M) => HP.out.red HW.out hM HES.out hl)
    obtain ⟨bs, hbs⟩ : ∃ x, x = burntL M es (chipsOf M (Dv d es f)) (q : Int) := ⟨_, rfl⟩
    rw [← hbs] at BRN
    rw [← hbs] at hbt HPN HCN HRD
    have HBU := Lib.hid hbt.1
    have hbl := hbt.1.len
    have hbl0 : 0 < bs.length := List.length_pos_of_mem hbt.1.first
    have HBS := Lib.hid hbs
    have r0 : wr.cell? ⟨pr, 0, none⟩ = some (.pointer (some ⟨pb, 0, none⟩)) := by rw [HR.out.red.cell]; rfl
    have r1 : wr.cell? ⟨pr, 1, none⟩ = some (.int .i64 (q : Int)) := by rw [HR.out.red.cell]; rfl
    have lr := HR.out.red.lt
    obtain ⟨gx, rfl⟩ : ∃ gx : Nat, gx = gk := ⟨_, rfl⟩
    obtain ⟨wo, rfl⟩ : ∃ wo : World, wo = wr := ⟨_, rfl⟩
    clear hbt hbs
    go_wp2_with fail
    go_region_held3 (fun w' => w'.cell? ⟨pr, 0, none⟩ = some (.pointer (some ⟨pb, 0, none⟩)) ∧ w'.cell? ⟨pr, 1, none⟩ = some (.int .i64 (q : Int)) ∧ Below wo.heap.size wo w')
      (first
        | exact ⟨r0, r1, (Below.refl _ _).drew⟩
        | assumption
        | exact keepRd (by assumption) hb6 lr lr)
      (first
        | (go_at_call 72; refine (BRN _ (Below.refl _ _).drew).out.mono ?_; rintro e w6 ⟨base, pf, gh, ch, h, rfl, hz, hh, hb6⟩))
    have hb7 : Below wo.heap.size wo w6 := ((Below.refl _ _).drew).trans hb6
    have HZ := Lib.hid hz
    have HH := Lib.hid hh
    have HR6 := Lib.hid (HR.out.below hb7)
    have HB6 := Lib.hid (HBL.out.trans (hb7.mono HSZ.out))
    have HS6 := Lib.hid (Nat.le_trans HSZ.out hb7.size)
    have SP := Lib.hid (spared_any _ base pf gh ch pb M bs h w6 hM (by omega) hbl0 hz)
    clear hb6 hb7 hz hh r0 r1 lr BRN
    go_wp2_with fail
    refine SP.out.mono ?_
    rintro e w7 ⟨S7, c7, rfl, ho7, hb7⟩
    have HZ7 := Lib.hid (HZ.out.below hb7)
    have HR7 := Lib.hid (HR6.out.below hb7)
    have HB7 := Lib.hid (HB6.out.trans (hb7.mono HS6.out))
    have HS7 := Lib.hid (Nat.le_trans HS6.out hb7.size)
    have HO7 := Lib.hid ho7
    have HK6 := Lib.hid (show g < w6.heap.size ∧ gs < w6.heap.size from ⟨HR6.out.chips.lt, HR6.out.scr.lt⟩)
    have HI7 := Lib.hid ho7.ints
    clear ho7 hb7 HZ HR6 HB6 SP
    have hsl := sparedL_len M bs
    have hnd := sparedL_nodup M bs
    obtain ⟨K6, hK6⟩ : ∃ x, x = w6.heap.size := ⟨_, rfl⟩
    rw [← hK6] at HO7 HK6
    have HME := Lib.hid (fun (x : Int) => sparedL_mem (M := M) (ord := bs) (x := x))
    have HUP := Lib.hid (fun (f : Nat → Int) (t : Int) => inL_up M bs f t)
    have HNI := Lib.hid (fun (h : sparedL M bs = []) => spared_nil HBU.out h)
    have HHO := Lib.hid (fun (h : sparedL M bs ≠ []) => spared_hot HCU.out HES.out HBU.out h)
    obtain ⟨L, hL⟩ : ∃ x, x = sparedL M bs := ⟨_, rfl⟩
    rw [← hL] at HO7 HI7 hsl hnd HME HUP HNI HHO ⊢
    have HND := Lib.hid hnd
    clear hL hK6 hnd
    by_cases h0 : L.length = 0
    · have t1 : ((L.length : Int) == 0) = true := by simp [h0]
      have HIR := Lib.hid (HRD.out (HNI.out (List.eq_nil_of_length_eq_zero h0)))
      clear h0
      go_wp2
      refine bodyPost_ret (results_none rfl _ _ _) rfl ?_
      exact ⟨rfl, f, HIR.out, HR7.out, HB7.out⟩
    · have t1 : ((L.length : Int) == 0) = false := by rw [beq_eq_false_iff_ne]; omega
      have hne : L ≠ [] := fun h => h0 (by rw [h]; rfl)
      obtain ⟨v0, hv0, hvm0, hvh0⟩ := HHO.out hne
      have hfb := fun (u : Nat) (_ : u < M) => Dv_bound (M := M) (f := f) (d := d) HN.out (fun u => by have := HDB.out u; omega) HES.out HF.out u
      have FR := Lib.hid (firings_any _ base pf gh ch pb M g cg (.slice A es.length cA) S7 c7 w7.heap.size (Dv d es f) h bs L w7 hM (by omega) (fun x hx => ⟨((HME.out x).1 hx).1, ((HME.out x).1 hx).2.1⟩) hfb (fun u => by
        have h1 := heat_lo (inL bs) u es
        have h2 := HH.out u
        have h3 := HN.out
        omega) (fun v hv => by
        rw [HH.out v]
        have h1 := (HME.out _).1 hv
        exact HCN.out v (by omega) h1.2.2) HR7.out.brd HR7.out.chips HI7.out (Nat.le_refl _) HZ7.out)
      clear h0 hne hfb
      go_wp2_with fail
      refine FR.out.mono ?_
      rintro e w8 ⟨⟨T, rfl, hal⟩, hb8⟩
      have hT1 := hal.1
      have hT2 : T ≤ 1000000000000 := by
        have h1 := hal.2.2 v0 hvm0 (by rw [HH.out v0]; exact hvh0)
        have h2 := (quo_pos (x := Dv d es f v0) (y := h v0) (by rw [HH.out v0]; exact hvh0) (by rw [HH.out v0]; exact HCN.out v0 hv0 ((HME.out _).1 hvm0).2.2)).2.1
        have h3 := (Dv_bound (M := M) (f := f) (d := d) HN.out (fun u => by have := HDB.out u; omega) HES.out HF.out v0).2
        omega
      have HPX := HPN T (by omega) (fun v hv hnb => by
        have h1 := (heat_lo (inL bs) v es).1
        by_cases hz : heat (inL bs) v es = 0
        · rw [hz]
          have := HP.out.pos v hv (fun e => hnb (by rw [e]; exact HBU.out.first))
          omega
        · have h2 := hal.2.2 v ((HME.out _).2 ⟨by omega, by omega, hnb⟩) (by rw [HH.out v]; omega)
          have h3 := (quo_pos (x := Dv d es f v) (y := h v) (by rw [HH.out v]; omega) (by rw [HH.out v]; exact HCN.out v hv hnb)).2.2
          rw [HH.out v] at h2 h3
          have h4 := Int.mul_le_mul_of_nonneg_right h2 h1
          omega)
      have HSX := Lib.hid (addSet_sum (M := M) (f := f) (U := upU bs M) (t := T) (by omega) ⟨v0, hv0, by
        have h1 := ((HME.out _).1 hvm0).2.2
        simp [upU, inL, h1, hv0]⟩)
      have HSY := Lib.hid (HPX.out.sum HW.out hM HES.out)
      have HR8 := Lib.hid (HR7.out.below hb8)
      have HB8 := Lib.hid (HB7.out.trans (hb8.mono HS7.out))
      have HS8 := Lib.hid (Nat.le_trans HS7.out hb8.size)
      have HO8 := Lib.hid (HO7.out.below hb8)
      clear hal hb8 HZ7 HR7 HB7 HI7 HO7 FR hvm0 hvh0
      go_wp2
      go_loopg [6, 26] L.length (fun gj _ s26 wx => ∃ k : Nat, k ≤ L.length ∧ gj + k = L.length ∧ s26 = .int .i64 k ∧ Hid (RdI wx B pr pb g cg gs M q A cA es d (addSet f (inL (L.take k)) T)) ∧ Hid (Below B w wx) ∧ Hid (B ≤ wx.heap.size) ∧ Hid (OwnI wx K6 S7 L))
      case atStart => exact ⟨0, Nat.zero_le _, by omega, rfl, Lib.hid (by rw [List.take_zero, inL_zero]; exact HR8.out), HB8, HS8, HO8⟩
      case round =>
        obtain ⟨k, hk, hgk, rfl, HRk, HBk, HSk, HOk⟩ := hrel
        by_cases hlt : k < L.length
        · obtain ⟨b1, o1, x, hS7, hb1, he, hc0⟩ := HOk.out.ints.at_ hlt
          subst hS7
          have hi0 : (0 : Int) ≤ (k : Int) := Int.natCast_nonneg _
          have hi1 : (k : Int) < (L.length : Int) := by omega
          have hxm := (HME.out x).1 (List.mem_of_getElem? he)
          obtain ⟨v, rfl⟩ : ∃ v : Nat, x = (v : Int) := ⟨x.toNat, by omega⟩
          have hvM : v < M := by omega
          have HTK := Lib.hid (inL_take f T he HND.out)
          have FIR := Lib.hid (fireR_any B pr pb g cg gs M q v A cA es d (addSet f (inL (L.take k)) T) T wr HSk.out hvM HN.out HES.out (HE.out.keep (fun p hp => HBk.out.cell (by omega)) (Nat.le_refl _)) HNN.out HRk.out)
          clear he hxm
          go_wp2_with fail
          refine FIR.out.mono ?_
          rintro e w9 ⟨rfl, hr9, hb9, hk9⟩
          rw [HTK.out] at hr9
          have HR9 := Lib.hid hr9
          have HB9 := Lib.hid (HBk.out.trans hb9)
          have HS9 := Lib.hid (Nat.le_trans HSk.out hb9.size)
          have HO9 := Lib.hid (HOk.out.keep_ hb9.size (fun i hi hbi => hk9 i hi (by have := HK6.out; omega) (by have := HK6.out; omega)))
          clear hr9 hb9 hk9 hc0 FIR
          go_wp2
          go_roundg (gk - 1)
          case measure => omega
          case rel => exact ⟨k + 1, by omega, by omega, by go_num, HR9, HB9, HS9, HO9⟩
        · have hr9 := HRk.out
          rw [List.take_of_length_le (by omega), HUP.out] at hr9
          have HR9 := Lib.hid hr9
          clear hr9
          go_wp2
          go_roundg (13572600 - sumV (addSet f (upU bs M) T) M).toNat
          case measure =>
            have a1 := HG.out
            have a2 := HSX.out
            have a3 := HSY.out
            omega
          case rel => exact ⟨_, Lib.hid (by have := HSY.out; omega), HPX, HR9, HBk, HSk⟩
/-- what reduce gives: a reduction in new memory that has come to its end -/
def GivesRdn (w : World) (M : Nat) (A : Option Addr) (c : Nat) (es : List (Int × Int)) (d : List Int) (q : Nat) (e : Ending) (w' : World) : Prop :=
  ∃ (pr pb g cg gs : Nat) (f : Nat → Int), e = .returned (.pointer (some ⟨pr, 0, none⟩)) ∧ IsRed M es d q f ∧ RdI w' w.heap.size pr pb g cg gs M q A c es d f ∧ RdN w.heap.size pr pb g gs ∧ Below w.heap.size w w'
set_option maxRecDepth 100000 in
set_option maxHeartbeats 8000000 in
theorem reduceW_any (A D : Option Addr) (c cd M q : Nat) (es : List (Int × Int)) (d : List Int) (w : World) (hM0 : 0 < M) (hM : M ≤ 6) (hq : q < M) (hd : d.length = M) (hn : es.length ≤ 12) (hes : ∀ e ∈ es, 0 ≤ e.1 ∧ e.1 < e.2 ∧ e.2 < (M : Int)) (hdb : ∀ u, -100 ≤ d.getD u 0 ∧ d.getD u 0 ≤ 100) (hc : Cut M es)
    (hE : EdgeS w w.heap.size A es) (hS : IntS w w.heap.size D d) :
    Calls Try.prog 36 #[.agg #[.int .i64 (M : Int), .slice A es.length c], .slice D d.length cd, .int .i64 (q : Int)] w (GivesRdn w M A c es d q) := by
  obtain ⟨σ, hw⟩ := wt_exists hM hn hq hes hc
  have hmk := make_ints M (by omega)
  have hdw : ∀ x ∈ d, -9223372036854775808 ≤ x ∧ x ≤ 9223372036854775807 := fun x hx => by
    obtain ⟨i, hi⟩ := List.getElem?_of_mem hx
    have := hdb i
    simp [List.getD, hi] at this
    omega
  have HST := Lib.hid (show d = chipsOf M (Dv d es fun _ => 0) from by
    have h1 := chips_start hd hdw
    rw [← h1]
    exact chipsOf_eq fun u _ => by rw [h1, Dv, termsF_zero (fun _ => rfl)]; omega)
  have BO := fun (w' : World) (hb : Below w.heap.size w w') => Lib.hid (show Calls Try.prog 54 #[.agg #[.int .i64 (M : Int), .slice A es.length c], .slice D M cd] w' (fun e w'' => ∃ p g cg : Nat, e = .returned (.pointer (some ⟨p, 0, none⟩)) ∧ Blk w'' p 68 #[.slice A es.length c, .slice (some ⟨g, 0, none⟩) M cg] ∧ Chips w'' g d ∧ w'.heap.size ≤ g ∧ g < p ∧ Below w'.heap.size w' w'') from by
    have h := boardOf_any (M : Int) A D es.length c cd d w' (by omega) (by omega) (hS.up_ hb)
    unfold GivesBoard at h
    rw [hd] at h
    exact h)
  have PD := fun (pr pb g cg gs : Nat) (w' : World) (hb : Below w.heap.size w w') (hN : RdN w.heap.size pr pb g gs) (hR : RdI w' w.heap.size pr pb g cg gs M q A c es d (fun _ => 0)) => Lib.hid (payDebts_any w.heap.size pr pb g cg gs M q A c es d w' hM hq hn hes hdb hc hb.size (hE.keep (fun p hp => hb.cell hp) (Nat.le_refl _)) hN hR)
  have FS := fun (pr pb g cg gs : Nat) (f : Nat → Int) (w' : World) (hb : Below w.heap.size w w') (hN : RdN w.heap.size pr pb g gs) (hP : Ph1 M es d q f) (hH : hasDebt (chipsOf M (Dv d es f)) (q : Int) = false) (hR : RdI w' w.heap.size pr pb g cg gs M q A c es d f) => Lib.hid (fireSpared_any w.heap.size pr pb g cg gs M q A c es d f σ w' hM0 hM hq hn hes hdb hc hw hb.size (hE.keep (fun p hp => hb.cell hp) (Nat.le_refl _)) hN (hP.end_ hw hM hes hdb (noDebt hn hdb hes (hP.wide hw hM hes hdb) hH)) hR)
  have hM1 : (0 : Int) ≤ (M : Int) := Int.natCast_nonneg _
  rw [hd]
  clear hw hes hdb hc hE hS hd hdw
  go_enter Try.func36, Try.ntmps36
  go_wp2_with fail
  obtain ⟨W0, hW0⟩ : ∃ X : World, X = w.alloc (Obj.cells #[.int .i64 (M : Int), .slice A es.length c] 30) := ⟨_, rfl⟩
  rw [← hW0]
  have hb0 : Below w.heap.size w W0 := by rw [hW0]; exact (Below.refl _ _).alloc (Nat.le_refl _) _
  have hx0 : Blk W0 w.heap.size 30 #[.int .i64 (M : Int), .slice A es.length c] := by rw [hW0]; exact Blk.new w _ _
  have c0 : W0.cell? ⟨w.heap.size, 0, none⟩ = some (.int .i64 (M : Int)) := by rw [hx0.cell]; rfl
  have c1 : W0.cell? ⟨w.heap.size, 1, none⟩ = some (.slice A es.length c) := by rw [hx0.cell]; rfl
  have l0 : w.heap.size < W0.heap.size := hx0.lt
  clear hW0 hx0
  go_region_held3 (fun w' => w'.cell? ⟨w.heap.size, 0, none⟩ = some (.int .i64 (M : Int)) ∧ w'.cell? ⟨w.heap.size, 1, none⟩ = some (.slice A es.length c) ∧ Below W0.heap.size W0 w')
    (first
      | exact ⟨c0, c1, (Below.refl _ _).drew⟩
      | assumption
      | exact keepRd (by assumption) hb2 l0 l0
      | exact keepRd (by assumption) ((Below.refl _ _).alloc (Nat.le_refl _) _) l0 l0)
    (first
      | (go_at_call 54; refine (BO _ (by first | exact hb0.drew | exact (hb0.drew.alloc (by simpa using hb0.size) _) | exact (hb0.alloc hb0.size _).drew)).out.mono ?_; rintro e w2 ⟨p, g, cg, rfl, hbrd, hch, hg, hgp, hb2⟩))
  · obtain ⟨W3, hW3⟩ : ∃ X : World, X = (w2.alloc (Obj.cells (intCells (List.replicate M 0)).toArray 3)).alloc (Obj.cells #[.pointer (some ⟨p, 0, none⟩), .int .i64 (q : Int), .slice (some ⟨w2.heap.size, 0, none⟩) M M] 71) := ⟨_, rfl⟩
    rw [← hW3]
    have hsc := Blk.new w2 3 (intCells (List.replicate M 0)).toArray
    rw [chips_zero] at hsc
    have hrd := Blk.new (w2.alloc (Obj.cells (intCells (List.replicate M 0)).toArray 3)) 71 #[.pointer (some ⟨p, 0, none⟩), .int .i64 (q : Int), .slice (some ⟨w2.heap.size, 0, none⟩) M M]
    rw [World.size_alloc, ← hW3] at hrd
    have hba : Below w2.heap.size w2 W3 := by rw [hW3]; exact ((Below.refl _ _).alloc (Nat.le_refl _) _).alloc (by simp) _
    have hch0 := hch
    rw [HST.out] at hch0
    have hp2 := hbrd.lt
    have hW : W0.heap.size ≤ g := hg
    have hR3 : RdI W3 w.heap.size (w2.heap.size + 1) p g cg w2.heap.size M q A c es d (fun _ => 0) := ⟨hrd, hbrd.below hba hp2, hch0.below hba, by
      rw [hW3, chips_zero]
      exact (Chips.of_blk hsc).below ((Below.refl _ _).alloc (Nat.le_refl _) _)⟩
    have hN3 : RdN w.heap.size (w2.heap.size + 1) p g w2.heap.size := ⟨by omega, by omega, by omega, by omega, by omega, by omega, by omega, by omega, by omega⟩
    have hb3 : Below w.heap.size w W3 := (hb0.drew.trans (hb2.mono hb0.size)).trans (hba.mono (by omega))
    clear hsc hrd hba hch0 hp2 hW
    have HR3 := Lib.hid hR3
    have HN3 := Lib.hid hN3
    have HB3 := Lib.hid hb3
    clear hW3 hR3 hN3 hb3 hbrd hch hg hgp hb2 c0 c1
    go_wp2_with fail
    refine (PD _ _ _ _ _ _ HB3.out HN3.out HR3.out).out.mono ?_
    rintro e w4 ⟨rfl, f, hp4, hh4, hr4, hb4⟩
    have HB4 := Lib.hid (HB3.out.trans hb4)
    have FSX := Lib.hid (FS _ _ _ _ _ f w4 HB4.out HN3.out hp4 hh4 hr4)
    clear hp4 hh4 hr4 hb4
    go_wp2_with fail
    refine FSX.out.out.mono ?_
    rintro e w5 ⟨rfl, f5, hi5, hr5, hb5⟩
    have HI5 := Lib.hid hi5
    have HR5 := Lib.hid hr5
    have HB5 := Lib.hid (HB4.out.trans hb5)
    clear hi5 hr5 hb5
    go_wp2
    go_ret
    exact ⟨_, _, _, _, _, f5, rfl, HI5.out, HR5.out, HN3.out, HB5.out⟩
  · obtain ⟨W3, hW3⟩ : ∃ X : World, X = w2.alloc (Obj.cells #[.pointer (some ⟨p, 0, none⟩), .int .i64 (q : Int), .slice (some ⟨W0.heap.size, 0, none⟩) M M] 71) := ⟨_, rfl⟩
    rw [← hW3]
    have hsc := Blk.new W0 3 (intCells (List.replicate M 0)).toArray
    rw [chips_zero] at hsc
    have hgs : Chips w2 W0.heap.size (chipsOf M fun _ => 0) := by
      have h1 := (Chips.of_blk hsc).below ((Below.refl _ _).drew)
      rw [chips_zero] at hb2
      exact h1.below hb2
    have hrd := Blk.new w2 71 #[.pointer (some ⟨p, 0, none⟩), .int .i64 (q : Int), .slice (some ⟨W0.heap.size, 0, none⟩) M M]
    rw [← hW3] at hrd
    have hba : Below w2.heap.size w2 W3 := by rw [hW3]; exact (Below.refl _ _).alloc (Nat.le_refl _) _
    have hch0 := hch
    rw [HST.out] at hch0
    have hp2 := hbrd.lt
    have hW : W0.heap.size + 1 ≤ g := by have := hg; simpa using this
    have hR3 : RdI W3 w.heap.size w2.heap.size p g cg W0.heap.size M q A c es d (fun _ => 0) := ⟨hrd, hbrd.below hba hp2, hch0.below hba, hgs.below hba⟩
    have hN3 : RdN w.heap.size w2.heap.size p g W0.heap.size := ⟨by omega, by omega, by omega, by omega, by omega, by omega, by omega, by omega, by omega⟩
    have hb3 : Below w.heap.size w W3 := ((hb0.alloc hb0.size _).drew.trans (hb2.mono (by simp; omega))).trans (hba.mono (by omega))
    clear hsc hrd hba hch0 hp2 hW hgs
    have HR3 := Lib.hid hR3
    have HN3 := Lib.hid hN3
    have HB3 := Lib.hid hb3
    clear hW3 hR3 hN3 hb3 hbrd hch hg hgp hb2 c0 c1
    go_wp2_with fail
    refine (PD _ _ _ _ _ _ HB3.out HN3.out HR3.out).out.mono ?_
    rintro e w4 ⟨rfl, f, hp4, hh4, hr4, hb4⟩
    have HB4 := Lib.hid (HB3.out.trans hb4)
    have FSX := Lib.hid (FS _ _ _ _ _ f w4 HB4.out HN3.out hp4 hh4 hr4)
    clear hp4 hh4 hr4 hb4
    go_wp2_with fail
    refine FSX.out.out.mono ?_
    rintro e w5 ⟨rfl, f5, hi5, hr5, hb5⟩
    have HI5 := Lib.hid hi5
    have HR5 := Lib.hid hr5
    have HB5 := Lib.hid (HB4.out.trans hb5)
    clear hi5 hr5 hb5
    go_wp2
    go_ret
    exact ⟨_, _, _, _, _, f5, rfl, HI5.out, HR5.out, HN3.out, HB5.out⟩
def degB (xs : List Int) : Nat → Int
  | 0 => 0
  | j + 1 => wrap64 (degB xs j + xs.getD j 0)
theorem getD_ofD {l : List Int} {j : Nat} {z : Int} (h : l[j]? = some z) : l.getD j 0 = z := by simp [List.getD, h]
theorem degB_step {xs : List Int} {j : Nat} {x : Int} (h : xs[j]? = some x) : degB xs (j + 1) = wrap64 (degB xs j + x) := by rw [degB, getD_ofD h]

set_option maxHeartbeats 1000000 in
theorem specDeg (A : Option Addr) (c : Nat) (xs : List Int) (w : World) (hn : xs.length ≤ 1048576) (hS : IntS w w.heap.size A xs) :
    Calls Try.prog 50 #[.slice A xs.length c] w fun e w' => e = .returned (.int .i64 (degB xs xs.length)) ∧ Below w.heap.size w w' := by
  have HS := Lib.hid hS
  clear hS
  go_enter Try.func50, Try.ntmps50
  go_wp2
  go_loop [3, 8] (fun s i => ∃ j : Nat, j ≤ xs.length ∧ i = .int .i64 j ∧ s = .int .i64 (degB xs j)) (fun _ i => xs.length - (intOf i).toNat)
  case atStart => exact ⟨0, Nat.zero_le _, rfl, rfl⟩
  case round =>
    obtain ⟨j, hj, rfl, rfl⟩ := hrel
    by_cases hlt : j < xs.length
    · obtain ⟨b1, o1, x, rfl, hb1, he, hc0⟩ := HS.out.at_ hlt
      have hj0 : (0 : Int) ≤ (j : Int) := Int.natCast_nonneg _
      have hj1 : (j : Int) < (xs.length : Int) := by omega
      have HD := Lib.hid (degB_step he)
      clear he
      go_wp2
      exact ⟨⟨j + 1, by omega, by go_num, by rw [HD.out]⟩, by simp [intOf]; omega⟩
    · have HJ := Lib.hid (show j = xs.length by omega)
      go_wp2
      go_ret
      exact ⟨ret_intE (by rw [HJ.out]), Below.refl _ _⟩
set_option maxHeartbeats 1000000 in
theorem implDeg (A : Option Addr) (c : Nat) (xs : List Int) (w : World) (hn : xs.length ≤ 1048576) (hS : IntS w w.heap.size A xs) :
    Calls Try.prog 52 #[.slice A xs.length c] w fun e w' => e = .returned (.int .i64 (degB xs xs.length)) ∧ Below w.heap.size w w' := by
  have HS := Lib.hid hS
  clear hS
  go_enter Try.func52, Try.ntmps52
  go_wp2
  go_loop [3, 8] (fun s i => ∃ j : Nat, j ≤ xs.length ∧ i = .int .i64 j ∧ s = .int .i64 (degB xs j)) (fun _ i => xs.length - (intOf i).toNat)
  case atStart => exact ⟨0, Nat.zero_le _, rfl, rfl⟩
  case round =>
    obtain ⟨j, hj, rfl, rfl⟩ := hrel
    by_cases hlt : j < xs.length
    · obtain ⟨b1, o1, x, rfl, hb1, he, hc0⟩ := HS.out.at_ hlt
      have hj0 : (0 : Int) ≤ (j : Int) := Int.natCast_nonneg _
      have hj1 : (j : Int) < (xs.length : Int) := by omega
      have HD := Lib.hid (degB_step he)
      clear he
      go_wp2
      exact ⟨⟨j + 1, by omega, by go_num, by rw [HD.out]⟩, by simp [intOf]; omega⟩
    · have HJ := Lib.hid (show j = xs.length by omega)
      go_wp2
      go_ret
      exact ⟨ret_intE (by rw [HJ.out]), Below.refl _ _⟩
section
variable {P : Program} {ops : Array Oper} {Q : Exit → Act → World → Prop} {md : Region.Mode} {S : World → Prop} {oi : Oper} {fuel : Nat} {listed : Array Bool} {a : Act} {w : World}
end
def posB (z : Int) : Bool := decide (0 ≤ z)
def posAll (xs : List Int) : Bool := xs.all posB
theorem debt_at (w : World) : PredAt Try.prog 67 #[] (fun z : Int => .int .i64 z) (fun z => !posB z) w := by
  intro W z _
  show Calls Try.prog 67 #[.int .i64 z] W fun e w' => e = .returned (.bool (!posB z)) ∧ ∃ q, w' = W.drewN q
  by_cases h1 : z < 0
  · have H : (!posB z) = true := by simp only [posB]; rw [decide_eq_false (by omega)]; rfl
    rw [H]
    have t1 : decide (z < 0) = true := decide_eq_true h1
    clear H
    go_enter Try.func67, Try.ntmps67
    go_wp2
    go_ret
    exact ⟨rfl, 0, rfl⟩
  · have H : (!posB z) = false := by simp only [posB]; rw [decide_eq_true (by omega)]; rfl
    rw [H]
    have t1 : decide (z < 0) = false := decide_eq_false h1
    clear H h1
    go_enter Try.func67, Try.ntmps67
    go_wp2
    go_ret
    exact ⟨rfl, 0, rfl⟩
theorem debt_enters : ∀ args w, (callFunc 67 args).run Try.prog w = .ok (.enter 67 args) w := enters_of Try.func67 (by kernel_rfl) rfl
theorem contains_debt (A : Option Addr) (c B : Nat) (r : List Int) (w : World) (hn : r.length ≤ 1048576) (hS : IntS w B A r) :
    Calls Try.prog 66 #[.slice A r.length c, .func (.func 67) #[] #[]] w fun e w' => e = .returned (.bool (!posAll r)) ∧ ∃ q, w' = w.drewN q := by
  by_cases h0 : 0 < r.length
  · obtain ⟨b, off, rfl, hb, hc⟩ := hS h0
    have h := Try.slices_ContainsFunc (fun z : Int => .int .i64 z) (fun z => !posB z) 67 #[] debt_enters b off r.length c r w (debt_at w) (Nat.le_refl _) (by omega)
      (fun j hj => by rw [hc j r[j] (List.getElem?_eq_getElem hj)]; simp [getElem!_pos r j hj])
    rw [List.take_length] at h
    have e : (r.any fun z => !posB z) = !posAll r := by rw [posAll, List.not_all_eq_any_not]
    rwa [e] at h
  · obtain rfl : r = [] := by
      cases r with
      | nil => rfl
      | cons a l => simp at h0
    exact (Try.slices_ContainsFunc_empty (α := Int) A c _ w).mono fun e w' ⟨h1, h2⟩ => ⟨h1, 0, h2⟩
set_option maxHeartbeats 1000000 in
theorem implEff (A : Option Addr) (c : Nat) (xs : List Int) (w : World) (hn : xs.length ≤ 1048576) (hS : IntS w w.heap.size A xs) :
    Calls Try.prog 53 #[.slice A xs.length c] w fun e w' => e = .returned (.bool (posAll xs)) ∧ Below w.heap.size w w' := by
  have HC := Lib.hid (contains_debt A c _ xs w hn hS)
  clear hS
  go_enter Try.func53, Try.ntmps53
  go_wp2_with fail
  refine HC.out.mono ?_
  rintro e w' ⟨rfl, q, rfl⟩
  go_wp2
  go_ret
  exact ⟨ret_boolE (by simp), drewN_below w q⟩
def effB : Nat → Int → List (List Int)
  | 0, _ => []
  | 1, k => if k < 0 then [] else [[k]]
  | n + 2, k => if k < 0 then [] else (List.range (k.toNat + 1)).flatMap fun (x : Nat) => (effB (n + 1) (k - (x : Int))).map fun r => (x : Int) :: r
/-- the first j of them by their first number -/
def effTo (n : Nat) (k : Int) (j : Nat) : List (List Int) := (List.range j).flatMap fun (x : Nat) => (effB (n + 1) (k - (x : Int))).map fun r => (x : Int) :: r
theorem QOwn.below {w w' : World} {base : Nat} {v : Value} {q : List Int} (h : QOwn w base v q) (hb : Below w.heap.size w w') : QOwn w' base v q :=
  World.ownsRow.kept h (row := none) ⟨hb.os, hb.tape, hb.output, hb.size, fun i hi _ => hb.block i hi⟩ (Classical.em _)
/-- two rows of unlike cells lie in two blocks -/
theorem own_types {w : World} {base e1 e2 s1 s2 n1 n2 : Nat} {v1 v2 : Value} {x1 x2 : List Value} (h1 : w.ownsRow base e1 s1 v1 n1 x1) (h2 : w.ownsRow base e2 s2 v2 n2 x2) (hne : e1 ≠ e2) : v1.ownBlock = none ∨ v1.ownBlock ≠ v2.ownBlock := by
  rcases h1.2 with ⟨e, _⟩ | ⟨g, cap, cur, e, _, hg, _⟩
  · left; rw [e]; rfl
  · right
    rw [e]
    rcases h2.2 with ⟨e', _⟩ | ⟨g', cap', cur', e', _, hg', _⟩
    · rw [e']; simp [Value.ownBlock]
    · rw [e']
      simp only [Value.ownBlock, ne_eq, Option.some.injEq]
      rintro rfl
      rw [hg] at hg'
      injection hg' with hg'
      injection hg' with _ ht _
      exact hne ht
/-- rows built one by one -/
def SSOwn (w : World) (base : Nat) (v : Value) (rs : List (List Int)) : Prop :=
  ∃ vs : List Value, w.ownsRow base 26 1 v rs.length vs ∧ ∀ (i : Nat) (r : List Int), rs[i]? = some r → ∃ u, vs[i]? = some u ∧ QOwn w base u r
theorem SSOwn.kept {w w' : World} {base : Nat} {v : Value} {rs : List (List Int)} (h : SSOwn w base v rs) (hb : Below w.heap.size w w') : SSOwn w' base v rs := by
  obtain ⟨vs, h1, h2⟩ := h
  refine ⟨vs, h1.kept (row := none) ⟨hb.os, hb.tape, hb.output, hb.size, fun i hi _ => hb.block i hi⟩ (Classical.em _), fun i r hr => ?_⟩
  obtain ⟨u, hu, hq⟩ := h2 i r hr
  exact ⟨u, hu, hq.below hb⟩
/-- one more row -/
theorem SSOwn.push {w w1 : World} {base : Nat} {v v' u : Value} {rs : List (List Int)} {r : List Int} {vs : List Value} (h1 : w.ownsRow base 26 1 v rs.length vs) (h2 : ∀ (i : Nat) (r : List Int), rs[i]? = some r → ∃ u, vs[i]? = some u ∧ QOwn w base u r)
    (hr : QOwn w base u r) (ho : w1.ownsRow base 26 1 v' (rs.length + 1) (vs ++ [u])) (hg : w.grownBy w1 v.ownBlock) : SSOwn w1 base v' (rs ++ [r]) := by
  have keep : ∀ {x : Value} {p : List Int}, QOwn w base x p → QOwn w1 base x p := fun hq => World.ownsRow.kept hq hg (own_types hq h1 (by decide))
  have hl : vs.length = rs.length := by have := h1.1; omega
  refine ⟨vs ++ [u], by simpa using ho, fun i p hp => ?_⟩
  rcases Nat.lt_or_ge i rs.length with l | l
  · rw [List.getElem?_append_left l] at hp
    obtain ⟨x, hx, hq⟩ := h2 i p hp
    exact ⟨x, by rw [List.getElem?_append_left (by omega)]; exact hx, keep hq⟩
  · rw [List.getElem?_append_right l] at hp
    have hi : i - rs.length = 0 := by
      have := (List.getElem?_eq_some_iff.1 hp).1
      simp at this
      omega
    rw [hi] at hp
    simp only [List.getElem?_cons_zero, Option.some.injEq] at hp
    subst hp
    exact ⟨u, by rw [List.getElem?_append_right (by omega), hl, hi]; rfl, keep hr⟩
/-- rows, new memory, are handed back to be read -/
theorem ownsRow_mono {w : World} {base base' e s n : Nat} {v : Value} {xs : List Value} (h : w.ownsRow base e s v n xs) (hb : base' ≤ base) : w.ownsRow base' e s v n xs := by
  obtain ⟨h1, h2⟩ := h
  refine ⟨h1, ?_⟩
  rcases h2 with h2 | ⟨g, cap, cur, e1, h3, h4⟩
  · exact .inl h2
  · exact .inr ⟨g, cap, cur, e1, by omega, h4⟩
theorem SSOwn.mono {w : World} {base base' : Nat} {v : Value} {rs : List (List Int)} (h : SSOwn w base v rs) (hb : base' ≤ base) : SSOwn w base' v rs := by
  obtain ⟨vs, h1, h2⟩ := h
  refine ⟨vs, ownsRow_mono h1 hb, fun i r hr => ?_⟩
  obtain ⟨u, hu, hq⟩ := h2 i r hr
  exact ⟨u, hu, ownsRow_mono hq hb⟩
section
variable {P : Program} {w : World}
end
theorem own_types2 {w : World} {base base2 e1 e2 s1 s2 n1 n2 : Nat} {v1 v2 : Value} {x1 x2 : List Value} (h1 : w.ownsRow base e1 s1 v1 n1 x1) (h2 : w.ownsRow base2 e2 s2 v2 n2 x2) (hne : e1 ≠ e2) : v1.ownBlock = none ∨ v1.ownBlock ≠ v2.ownBlock :=
  own_types (ownsRow_mono h1 (Nat.zero_le _)) (ownsRow_mono h2 (Nat.zero_le _)) hne
/-- rows built one by one: the outer row from b1 on, the inner ones from b2 on -/
def SSOwn2 (w : World) (b1 b2 : Nat) (v : Value) (rs : List (List Int)) : Prop :=
  ∃ vs : List Value, w.ownsRow b1 26 1 v rs.length vs ∧ ∀ (i : Nat) (r : List Int), rs[i]? = some r → ∃ u, vs[i]? = some u ∧ QOwn w b2 u r
theorem SSOwn2.one {w : World} {b1 b2 : Nat} {v : Value} {rs : List (List Int)} (h : SSOwn2 w b1 b2 v rs) (hb : b1 ≤ b2) : SSOwn w b1 v rs := by
  obtain ⟨vs, h1, h2⟩ := h
  refine ⟨vs, h1, fun i r hr => ?_⟩
  obtain ⟨u, hu, hq⟩ := h2 i r hr
  exact ⟨u, hu, ownsRow_mono hq hb⟩
theorem SSOwn2.push {w w1 : World} {b1 b2 : Nat} {v v' u : Value} {rs : List (List Int)} {r : List Int} {vs : List Value} (h1 : w.ownsRow b1 26 1 v rs.length vs) (h2 : ∀ (i : Nat) (r : List Int), rs[i]? = some r → ∃ u, vs[i]? = some u ∧ QOwn w b2 u r)
    (hr : QOwn w b2 u r) (ho : w1.ownsRow b1 26 1 v' (rs.length + 1) (vs ++ [u])) (hg : w.grownBy w1 v.ownBlock) : SSOwn2 w1 b1 b2 v' (rs ++ [r]) := by
  have keep : ∀ {x : Value} {p : List Int}, QOwn w b2 x p → QOwn w1 b2 x p := fun hq => World.ownsRow.kept hq hg (own_types2 hq h1 (by decide))
  have hl : vs.length = rs.length := by have := h1.1; omega
  refine ⟨vs ++ [u], by simpa using ho, fun i p hp => ?_⟩
  rcases Nat.lt_or_ge i rs.length with l | l
  · rw [List.getElem?_append_left l] at hp
    obtain ⟨x, hx, hq⟩ := h2 i p hp
    exact ⟨x, by rw [List.getElem?_append_left (by omega)]; exact hx, keep hq⟩
  · rw [List.getElem?_append_right l] at hp
    have hi : i - rs.length = 0 := by
      have := (List.getElem?_eq_some_iff.1 hp).1
      simp at this
      omega
    rw [hi] at hp
    simp only [List.getElem?_cons_zero, Option.some.injEq] at hp
    subst hp
    exact ⟨u, by rw [List.getElem?_append_right (by omega), show i - vs.length = 0 by omega]; rfl, keep hr⟩
/-- one row of rows built one by one, to be read -/
theorem SSOwn.at_ {w : World} {base : Nat} {v : Value} {rs : List (List Int)} {a : Nat} {r : List Int} (h : SSOwn w base v rs) (hr : rs[a]? = some r) (hz : 0 < r.length) :
    ∃ (g cap b c : Nat), v = .slice (some ⟨g, 0, none⟩) rs.length cap ∧ base ≤ g ∧ g < w.heap.size ∧ w.cell? ⟨g, a, none⟩ = some (.slice (some ⟨b, 0, none⟩) r.length c) ∧ r.length ≤ c ∧ base ≤ b ∧ b < w.heap.size ∧ ∀ (i : Nat) (x : Int), r[i]? = some x → w.cell? ⟨b, i, none⟩ = some (.int .i64 x) := by
  obtain ⟨vs, h1, h2⟩ := h
  obtain ⟨u, hu, hq⟩ := h2 a r hr
  have hal : a < rs.length := (List.getElem?_eq_some_iff.1 hr).1
  rcases h1.2 with ⟨_, e0⟩ | ⟨g, cap, cur, e, hb, hg, hnc, _, hcs, htk⟩
  · omega
  · have hob : v.ownBlock = some g := by rw [e]; rfl
    have hc := h1.cells hob a u hu
    rw [Addr.add_lit, Nat.zero_add] at hc
    rcases hq.2 with ⟨_, e0⟩ | ⟨b, c, cur2, e2, hb2, hg2, hnc2, _, _, _⟩
    · omega
    · refine ⟨g, cap, b, c, e, hb, (h1.lt g hob).2, by rw [hc, e2], hnc2, hb2, (World.ownsRow.lt hq b (by rw [e2]; rfl)).2, fun i x hx => ?_⟩
      have := World.ownsRow.cells hq (by rw [e2]; rfl) i (.int .i64 x) (by simp [intCells, hx])
      rwa [Addr.add_lit, Nat.zero_add] at this
theorem SSOwn2.keep {w w' : World} {b1 b2 : Nat} {v : Value} {rs : List (List Int)} (h : SSOwn2 w b1 b2 v rs) (hb : Below w.heap.size w w') : SSOwn2 w' b1 b2 v rs := by
  obtain ⟨vs, h1, h2⟩ := h
  refine ⟨vs, h1.kept (row := none) ⟨hb.os, hb.tape, hb.output, hb.size, fun i hi _ => hb.block i hi⟩ (Classical.em _), fun i r hr => ?_⟩
  obtain ⟨u, hu, hq⟩ := h2 i r hr
  exact ⟨u, hu, hq.below hb⟩
/-- .. the values told -/
def SSOwnV (w : World) (base : Nat) (v : Value) (vs : List Value) (rs : List (List Int)) : Prop :=
  w.ownsRow base 26 1 v rs.length vs ∧ ∀ (i : Nat) (r : List Int), rs[i]? = some r → ∃ u, vs[i]? = some u ∧ QOwn w base u r
theorem SSOwnV.one {w : World} {base : Nat} {v : Value} {vs : List Value} {rs : List (List Int)} (h : SSOwnV w base v vs rs) : SSOwn w base v rs := ⟨vs, h.1, h.2⟩
theorem SSOwnV.keep {w w' : World} {base : Nat} {v : Value} {vs : List Value} {rs : List (List Int)} (h : SSOwnV w base v vs rs) (hb : Below w.heap.size w w') : SSOwnV w' base v vs rs := by
  obtain ⟨h1, h2⟩ := h
  refine ⟨h1.kept (row := none) ⟨hb.os, hb.tape, hb.output, hb.size, fun i hi _ => hb.block i hi⟩ (Classical.em _), fun i r hr => ?_⟩
  obtain ⟨u, hu, hq⟩ := h2 i r hr
  exact ⟨u, hu, hq.below hb⟩
theorem SSOwnV.far {w w1 : World} {base b1 n : Nat} {v out : Value} {us : List Value} {rs : List (List Int)} {xs : List Value} (h : SSOwnV w base v us rs) (ho : w.ownsRow b1 26 1 out n xs) (hne : v.ownBlock ≠ out.ownBlock) (hg : w.grownBy w1 out.ownBlock) : SSOwnV w1 base v us rs := by
  obtain ⟨h1, h2⟩ := h
  refine ⟨h1.kept hg (.inr hne), fun i r hr => ?_⟩
  obtain ⟨u, hu, hq⟩ := h2 i r hr
  exact ⟨u, hu, World.ownsRow.kept hq hg (own_types2 hq ho (by decide))⟩
/-- the first row lies elsewhere -/
def FarV (vs : List Value) (lo hi : Nat) : Prop := ∀ u, vs[0]? = some u → ∃ (y o n c : Nat), u = .slice (some ⟨y, o, none⟩) n c ∧ (y < lo ∨ hi ≤ y)
theorem QOwn.far {w : World} {base : Nat} {v : Value} {r : List Int} (h : QOwn w base v r) (hr : 0 < r.length) : ∃ (y c : Nat), v = .slice (some ⟨y, 0, none⟩) r.length c ∧ base ≤ y ∧ y < w.heap.size := by
  rcases h.2 with ⟨_, e⟩ | ⟨g, cap, cur, e, hb, hg, _⟩
  · omega
  · exact ⟨g, cap, e, hb, (World.ownsRow.lt h g (by rw [e]; rfl)).2⟩
theorem effTo_mem {n : Nat} {k : Int} {j : Nat} {r : List Int} (h : r ∈ effTo n k j) : 0 < r.length := by
  unfold effTo at h
  rw [List.mem_flatMap] at h
  obtain ⟨x, _, h⟩ := h
  rw [List.mem_map] at h
  obtain ⟨p, _, rfl⟩ := h
  simp
/-- what a round of the inner loop holds -/
structure EffI (w wq : World) (lo hi gL x0 n0 c0 : Nat) (vL v : Value) (vsL : List Value) (L rs : List (List Int)) : Prop where
  old : Below w.heap.size w wq
  out : ∃ vs, wq.ownsRow w.heap.size 26 1 v rs.length vs ∧ (∀ (i : Nat) (r : List Int), rs[i]? = some r → ∃ u, vs[i]? = some u ∧ QOwn wq w.heap.size u r) ∧ FarV vs lo hi
  ne : v.ownBlock ≠ some gL
  L : SSOwnV wq lo vL vsL L
  cell : wq.cell? ⟨gL, 0, none⟩ = some (.slice (some ⟨x0, 0, none⟩) n0 c0)
  hi : hi ≤ wq.heap.size
theorem EffI.start {w wo w1 : World} {v v1 : Value} {L : List (List Int)} {n j kk : Nat} (ho : SSOwn wo w.heap.size v (effTo n (kk : Int) j)) (hb : Below w.heap.size w wo) (hL : SSOwn w1 wo.heap.size v1 L) (hb1 : Below wo.heap.size wo w1) (hp : 0 < L.length) (hr : ∀ r ∈ L, 0 < r.length) :
    ∃ (gL cL x0 n0 c0 : Nat) (vsL : List Value), v1 = .slice (some ⟨gL, 0, none⟩) L.length cL ∧ wo.heap.size ≤ x0 ∧ x0 < w1.heap.size ∧ EffI w w1 wo.heap.size w1.heap.size gL x0 n0 c0 v1 v vsL L (effTo n (kk : Int) j) := by
  obtain ⟨vsL, hL1, hL2⟩ := hL
  obtain ⟨gL, capL, x0, cx0, e, hgL1, hgL2, hcL, hcc, hx1, hx2, _⟩ := SSOwn.at_ ⟨vsL, hL1, hL2⟩ (List.getElem?_eq_getElem hp) (hr _ (List.getElem_mem hp))
  have ho2 := ho.kept hb1
  obtain ⟨vs, hs1, hs2⟩ := ho
  obtain ⟨vs', hs1', hs2'⟩ := ho2
  refine ⟨gL, capL, x0, _, cx0, vsL, e, hx1, hx2, hb.trans (hb1.mono hb.size), ?_, fun e => ?_, ⟨hL1, hL2⟩, hcL, Nat.le_refl _⟩
  · have k1 := hs1.kept (row := none) ⟨hb1.os, hb1.tape, hb1.output, hb1.size, fun i hi _ => hb1.block i hi⟩ (Classical.em _)
    refine ⟨vs, k1, fun i r h => ?_, fun u hu => ?_⟩
    · obtain ⟨u, hu, hq⟩ := hs2 i r h
      exact ⟨u, hu, hq.below hb1⟩
    · have hl : vs.length = (effTo n (kk : Int) j).length := by have := hs1.1; omega
      have hlt := (List.getElem?_eq_some_iff.1 hu).1
      have hp := List.getElem?_eq_getElem (l := effTo n (kk : Int) j) (i := 0) (by omega)
      obtain ⟨u', hu', hq⟩ := hs2 0 _ hp
      rw [hu] at hu'
      injection hu' with hu'
      subst hu'
      obtain ⟨y, c, e, h1, h2⟩ := hq.far (effTo_mem (List.mem_of_getElem? hp))
      exact ⟨y, 0, _, c, e, .inl h2⟩
  · have := (hs1.lt gL e).2
    omega
noncomputable def einOk (N : Int) (es : List (Int × Int)) (d : List Int) : Bool := divB 60 N es d && decide (degB d d.length ≤ 7)
theorem ein_no1 {N : Int} {es : List (Int × Int)} {d : List Int} (h : divB 60 N es d = false) : einOk N es d = false := by simp [einOk, h]
theorem ein_no2 {N : Int} {es : List (Int × Int)} {d : List Int} (h : ¬ degB d d.length ≤ 7) : einOk N es d = false := by simp [einOk]; intro _; omega
theorem ein_yes {N : Int} {es : List (Int × Int)} {d : List Int} (h : divB 60 N es d = true) (h2 : degB d d.length ≤ 7) : einOk N es d = true := by simp [einOk, h, h2]
/-- ints in a block between lo and hi -/
def InI (w : World) (lo hi : Nat) (A : Option Addr) (zs : List Int) : Prop :=
  0 < zs.length → ∃ b off : Nat, A = some ⟨b, off, none⟩ ∧ lo ≤ b ∧ b < hi ∧ ∀ (i : Nat) (z : Int), zs[i]? = some z → w.cell? ⟨b, off + i, none⟩ = some (.int .i64 z)
theorem InI.ints {w : World} {lo hi : Nat} {A : Option Addr} {zs : List Int} (h : InI w lo hi A zs) (hh : hi ≤ w.heap.size) : IntS w w.heap.size A zs := fun hn => by
  obtain ⟨g, off, e, h1, h2, h3⟩ := h hn
  exact ⟨g, off, e, by omega, h3⟩
theorem InI.wide {w : World} {lo lo' hi hi' : Nat} {A : Option Addr} {zs : List Int} (h : InI w lo hi A zs) (h1 : lo' ≤ lo) (h2 : hi ≤ hi') : InI w lo' hi' A zs := fun hn => by
  obtain ⟨g, off, e, h3, h4, h5⟩ := h hn
  exact ⟨g, off, e, by omega, by omega, h5⟩
theorem InI.below {w w' : World} {lo hi : Nat} {A : Option Addr} {zs : List Int} (h : InI w lo hi A zs) (hh : hi ≤ w.heap.size) (hb : Below w.heap.size w w') : InI w' lo hi A zs := fun hn => by
  obtain ⟨g, off, e, h1, h2, h3⟩ := h hn
  exact ⟨g, off, e, h1, h2, fun i z hz => (hb.cell (p := ⟨g, off + i, none⟩) (by simp only; omega)).trans (h3 i z hz)⟩
/-- apart from an interval of blocks -/
def OutOf (row : Option Nat) (lo hi : Nat) : Prop := ∀ g, row = some g → g < lo ∨ hi ≤ g
theorem InI.grown {w w' : World} {lo hi : Nat} {A : Option Addr} {zs : List Int} {row : Option Nat} (h : InI w lo hi A zs) (hh : hi ≤ w.heap.size) (hg : w.grownBy w' row) (ho : OutOf row lo hi) : InI w' lo hi A zs := fun hn => by
  obtain ⟨g, off, e, h1, h2, h3⟩ := h hn
  exact ⟨g, off, e, h1, h2, fun i z hz => (World.cell?_of_block (a := ⟨g, off + i, none⟩) (hg.block g (by omega) (fun e => by have := ho g e.symm; omega))).trans (h3 i z hz)⟩
theorem SSOwnV.mono {w : World} {base base' : Nat} {v : Value} {vs : List Value} {rs : List (List Int)} (h : SSOwnV w base v vs rs) (hb : base' ≤ base) : SSOwnV w base' v vs rs :=
  ⟨ownsRow_mono h.1 hb, fun i r hr => by
    obtain ⟨u, hu, hq⟩ := h.2 i r hr
    exact ⟨u, hu, ownsRow_mono hq hb⟩⟩
theorem SSOwnV.far2 {w w1 : World} {base b1 n : Nat} {v out : Value} {us : List Value} {rs : List (List Int)} {xs : List Value} (h : SSOwnV w base v us rs) (ho : w.ownsRow b1 26 1 out n xs) (hne : v.ownBlock = none ∨ v.ownBlock ≠ out.ownBlock) (hg : w.grownBy w1 out.ownBlock) : SSOwnV w1 base v us rs := by
  obtain ⟨h1, h2⟩ := h
  refine ⟨h1.kept hg hne, fun i r hr => ?_⟩
  obtain ⟨u, hu, hq⟩ := h2 i r hr
  exact ⟨u, hu, World.ownsRow.kept hq hg (own_types2 hq ho (by decide))⟩
/-- what the loop of EffectiveIn holds -/
structure EinI (w wr : World) (N : Int) (A : Option Addr) (c : Nat) (es : List (Int × Int)) (lb lo hi cL : Nat) (Ar A1 : Option Addr) (xs : List Int) (v : Value) (vsL : List Value) (L rs : List (List Int)) : Prop where
  g : GB w wr N A c es
  x : InI wr lo hi A1 xs
  out : ∃ vs, wr.ownsRow lb 26 1 v rs.length vs ∧ ∀ (i : Nat) (r : List Int), rs[i]? = some r → ∃ u, vs[i]? = some u ∧ QOwn wr lb u r
  far : OutOf v.ownBlock lo hi
  rows : SSOwnV wr lo (.slice Ar L.length cL) vsL L
  hile : hi ≤ wr.heap.size
  gl : lo ≤ hi ∧ ∀ g, (Value.slice Ar L.length cL).ownBlock = some g → lo ≤ g ∧ g < hi
  lbs : w.heap.size < lb ∧ lb ≤ lo
section
variable {w wr wd w4 : World} {N : Int} {A Ar A1 : Option Addr} {c lb lo hi cL : Nat} {es : List (Int × Int)} {xs : List Int} {v v' : Value} {vsL : List Value} {L rs : List (List Int)} {r : List Int}
theorem EinI.next (h : EinI w wr N A c es lb lo hi cL Ar A1 xs v vsL L rs) (hb : Below wr.heap.size wr wd) : EinI w wd N A c es lb lo hi cL Ar A1 xs v vsL L rs := by
  obtain ⟨vs, h1, h2⟩ := h.out
  have k1 := h1.kept (row := none) ⟨hb.os, hb.tape, hb.output, hb.size, fun i hi _ => hb.block i hi⟩ (Classical.em _)
  exact ⟨h.g.next hb, h.x.below h.hile hb, ⟨vs, k1, fun i r hr => by
    obtain ⟨u, hu, hq⟩ := h2 i r hr
    exact ⟨u, hu, hq.below hb⟩⟩, h.far, h.rows.keep hb, Nat.le_trans h.hile hb.size, h.gl, h.lbs⟩
/-- a row of the other's is put in -/
theorem EinI.push {u : Value} (h : EinI w wr N A c es lb lo hi cL Ar A1 xs v vsL L rs) (hq : QOwn wr lo u r) :
    ∃ vs, (wr.alloc (Obj.cells #[u] 26)).ownsRow lb 26 1 v rs.length vs ∧ lb ≤ (wr.alloc (Obj.cells #[u] 26)).heap.size ∧
    ∀ (w4 : World) (v' : Value), w4.ownsRow lb 26 1 v' (rs.length + 1) (vs ++ [u]) → World.grownBy (wr.alloc (Obj.cells #[u] 26)) w4 v.ownBlock → (v'.ownBlock = v.ownBlock ∨ v'.ownBlock = some (wr.heap.size + 1)) →
      EinI w w4 N A c es lb lo hi cL Ar A1 xs v' vsL L (rs ++ [r]) := by
  have hb : Below wr.heap.size wr (wr.alloc (Obj.cells #[u] 26)) := (Below.refl _ _).alloc (Nat.le_refl _) _
  have h' := h.next hb
  obtain ⟨vs, h1, h2⟩ := h'.out
  have hs := h'.hile
  have hl := h'.lbs
  have hgl := h.gl.1
  refine ⟨vs, h1, by omega, fun w4 v' o4 g4 hat => ?_⟩
  have hP := SSOwn.push h1 h2 (ownsRow_mono (hq.below hb) hl.2) o4 g4
  have hf : OutOf v.ownBlock lo hi := h.far
  have hlt : ∀ q, v.ownBlock = some q → lb ≤ q := fun q e => (h1.lt q e).1
  refine ⟨⟨h'.g.box.grown g4 (fun e => by have := hlt _ e; omega), h'.g.old.grown g4 (by have := h'.g.old.size; omega) (fun q e => by have := hlt _ e; omega)⟩, h'.x.grown hs g4 hf, hP, fun g e => ?_, h'.rows.far2 h1 ?_ g4, ?_, h.gl, h.lbs⟩
  · rcases hat with q | q
    · exact hf g (by rw [← q]; exact e)
    · rw [e] at q
      injection q with q
      have := h.hile
      exact .inr (by omega)
  · by_cases e : (Value.slice Ar L.length cL).ownBlock = none
    · exact .inl e
    · right
      intro q
      obtain ⟨g, hg⟩ := Option.ne_none_iff_exists'.1 e
      have h8 := h.gl.2 g hg
      have h9 := hf g (by rw [← q]; exact hg)
      omega
  · have := g4.size
    omega
end
/-- the degree is the sum, where nothing wraps -/
theorem deg_sum {xs : List Int} (h : ∀ u, -1000000 ≤ xs.getD u 0 ∧ xs.getD u 0 ≤ 1000000) : ∀ j : Nat, j ≤ 1000 → degB xs j = sumV (fun u => xs.getD u 0) j ∧ -(1000000 * (j : Int)) ≤ degB xs j ∧ degB xs j ≤ 1000000 * (j : Int)
  | 0, _ => by simp [degB, sumV]
  | j + 1, hj => by
    obtain ⟨h1, h2, h3⟩ := deg_sum h j (by omega)
    have h4 := h j
    rw [degB, wrap64_of (by omega) (by omega), sumV, ← h1]
    refine ⟨rfl, ?_, ?_⟩ <;> omega
section
variable {M : Nat} {es : List (Int × Int)} {d t : List Int}
end
section
variable {M : Nat} {es : List (Int × Int)} {d e : List Int}
end
section
variable {M : Nat} {es : List (Int × Int)} {a b d : List Int}
theorem posAll_iff {xs : List Int} : posAll xs = true ↔ ∀ x ∈ xs, 0 ≤ x := by
  unfold posAll posB
  rw [List.all_eq_true]
  exact ⟨fun h x hx => of_decide_eq_true (h x hx), fun h x hx => decide_eq_true (h x hx)⟩
end
section
variable {M : Nat} {es : List (Int × Int)} {d e : List Int}
end
theorem take_snocI {l : List Int} {k : Nat} {x : Int} (h : l[k]? = some x) : l.take (k + 1) = l.take k ++ [x] := by rw [List.take_add_one, h]; rfl


theorem partI_len0 (xs : List Int) : partI xs 0 = List.replicate xs.length 0 := by simp [partI]
/-- the program's reduction that has come to its end: its box, its board, the chips and the script -/
structure RedP (w : World) (B pr pb g cg gs M : Nat) (xs ss : List Int) : Prop where
  c0 : w.cell? ⟨pr, 0, none⟩ = some (.pointer (some ⟨pb, 0, none⟩))
  c2 : w.cell? ⟨pr, 2, none⟩ = some (.slice (some ⟨gs, 0, none⟩) M M)
  b1 : w.cell? ⟨pb, 1, none⟩ = some (.slice (some ⟨g, 0, none⟩) M cg)
  xs : OwnI w B (some ⟨g, 0, none⟩) xs
  ss : OwnI w B (some ⟨gs, 0, none⟩) ss
theorem RedP.next {w w' : World} {B pr pb g cg gs M : Nat} {xs ss : List Int} (h : RedP w B pr pb g cg gs M xs ss) (hb : Below w.heap.size w w') : RedP w' B pr pb g cg gs M xs ss :=
  ⟨(hb.cell (World.block_lt_of_cell? w _ h.c0)).trans h.c0, (hb.cell (World.block_lt_of_cell? w _ h.c2)).trans h.c2, (hb.cell (World.block_lt_of_cell? w _ h.b1)).trans h.b1, h.xs.below hb, h.ss.below hb⟩
set_option maxRecDepth 100000 in
set_option maxHeartbeats 4000000 in
theorem implLis (N : Int) (A D : Option Addr) (c cd : Nat) (es : List (Int × Int)) (d : List Int) (w : World) (hn : es.length ≤ 1048576) (hd : d.length ≤ 1048576) (hE : EdgeS w w.heap.size A es) (hS : IntS w w.heap.size D d) :
    Calls Try.prog 34 #[.agg #[.int .i64 N, .slice A es.length c], .slice D d.length cd] w (fun e w' => e = .returned (.bool (einOk N es d)) ∧ Below w.heap.size w w') := by
  have HE := Lib.hid hE
  have HS := Lib.hid hS
  clear hE hS
  have G0 := GB.start w N A c es
  have HD := fun w h1 h2 => Lib.hid (implDiv N A D c cd es d w hn hd h1 h2)
  have HX := fun w h1 => Lib.hid (implDeg D cd d w hd h1)
  cases h1 : divB 60 N es d with
  | false =>
    rw [h1] at HD
    rw [ein_no1 h1]
    clear h1 HX
    go_enter Try.func34, Try.ntmps34
    go_wp2_with fail
    refine (HD _ (HE.out.up_ G0.old) (HS.out.up_ G0.old)).out.mono ?_
    rintro e w1 ⟨rfl, hb1⟩
    have G1 := Lib.hid (G0.next hb1)
    clear G0 hb1
    go_wp2
    go_ret
    exact ⟨rfl, G1.out.old⟩
  | true =>
    rw [h1] at HD
    by_cases h2 : degB d d.length ≤ 7
    · rw [ein_yes h1 h2]
      obtain ⟨k, hk⟩ : ∃ k, k = degB d d.length := ⟨_, rfl⟩
      rw [← hk] at HX h2
      have h3 : decide (k ≤ 7) = true := decide_eq_true h2
      clear h1 hk
      go_enter Try.func34, Try.ntmps34
      go_wp2_with fail
      refine (HD _ (HE.out.up_ G0.old) (HS.out.up_ G0.old)).out.mono ?_
      rintro e w1 ⟨rfl, hb1⟩
      have G1 := Lib.hid (G0.next hb1)
      clear G0 hb1
      go_wp2_with fail
      refine (HX _ (HS.out.up_ G1.out.old)).out.mono ?_
      rintro e w2 ⟨rfl, hb2⟩
      have G2 := Lib.hid (G1.out.next hb2)
      clear hb2 G1
      go_wp2
      go_ret
      exact ⟨by simp, G2.out.old⟩
    · rw [ein_no2 h2]
      obtain ⟨k, hk⟩ : ∃ k, k = degB d d.length := ⟨_, rfl⟩
      rw [← hk] at HX h2
      have h3 : decide (k ≤ 7) = false := decide_eq_false h2
      clear h1 hk
      go_enter Try.func34, Try.ntmps34
      go_wp2_with fail
      refine (HD _ (HE.out.up_ G0.old) (HS.out.up_ G0.old)).out.mono ?_
      rintro e w1 ⟨rfl, hb1⟩
      have G1 := Lib.hid (G0.next hb1)
      clear G0 hb1
      go_wp2_with fail
      refine (HX _ (HS.out.up_ G1.out.old)).out.mono ?_
      rintro e w2 ⟨rfl, hb2⟩
      have G2 := Lib.hid (G1.out.next hb2)
      clear hb2 G1
      go_wp2
      go_ret
      exact ⟨by simp, G2.out.old⟩
set_option maxRecDepth 100000 in
set_option maxHeartbeats 4000000 in
theorem implMinus (A C : Option Addr) (ca cc : Nat) (xs ys : List Int) (w : World) (hn : xs.length ≤ 1048576) (hl1 : xs.length ≤ ys.length) (h1 : IntS w w.heap.size A xs) (h2 : IntS w w.heap.size C ys) :
    Calls Try.prog 31 #[.slice A xs.length ca, .slice C ys.length cc] w (GivesInts w (subB xs ys)) := by
  have HS := Lib.hid h1
  have HT := Lib.hid h2
  clear h1 h2
  have hmk := make_ints xs.length hn
  have HL := Lib.hid (subB_len xs ys)
  go_enter Try.func31, Try.ntmps31
  go_wp2
  go_loopw [12] (fun i wr => ∃ k : Nat, k ≤ xs.length ∧ i = .int .i64 k ∧ Blk wr w.heap.size 3 (intCells (partI (subB xs ys) k)).toArray ∧ Below w.heap.size w wr) (fun i _ => xs.length - (intOf i).toNat)
  case atStart =>
    refine ⟨0, Nat.zero_le _, rfl, ?_, (Below.refl _ _).alloc (Nat.le_refl _) _⟩
    rw [partI_len0, HL.out]
    exact Blk.new w _ _
  case round =>
    obtain ⟨k, hk, rfl, hblk, hb⟩ := hrel
    have HB := Lib.hid hblk
    clear hblk hmk
    by_cases hlt : k < xs.length
    · obtain ⟨b1, o1, x, rfl, hb1, he, hc0⟩ := (HS.out.below hb).at_ hlt
      obtain ⟨b2, o2, y, rfl, hb2, hf, hd0⟩ := (HT.out.below hb).at_ (k := k) (by omega)
      have hi0 : (0 : Int) ≤ (k : Int) := Int.natCast_nonneg _
      have hi1 : (k : Int) < (xs.length : Int) := by omega
      have hi2 : (k : Int) < (ys.length : Int) := by omega
      have HX := Lib.hid (subB_at he hf)
      clear he hf
      have hf0 := HB.out.frozen k
      have hcl0 : wr.cell? ⟨w.heap.size, k, none⟩ = some (.int .i64 0) := by rw [HB.out.cell]; simp [intCells, partI_at (subB xs ys) k (by rw [HL.out]; exact hlt)]
      go_wp2
      go_region
      go_wp2
      exact ⟨⟨k + 1, by omega, by go_num, (blk_partI HB.out HX.out).drew, (hb.setCell (Nat.le_refl _) _).drew⟩, by simp [intOf]; omega⟩
    · have HB2 := HB.out
      rw [show k = (subB xs ys).length by rw [HL.out]; omega, partI_all] at HB2
      have HB3 := Lib.hid HB2
      clear HB2
      go_wp2
      go_ret
      exact ⟨some ⟨w.heap.size, 0, none⟩, xs.length, by rw [HL.out]; rfl, OwnI.of_blk HB3.out (Nat.le_refl _), hb⟩
/-- whether a divisor, maybe a little beyond the limits, is winnable -/
noncomputable def winX (M : Nat) (es : List (Int × Int)) (d : List Int) : Bool := decide (0 ≤ Dv d es (redF M es d 0) 0)
section
variable {M : Nat} {es : List (Int × Int)} {d e : List Int}
end
section
variable {M : Nat} {es : List (Int × Int)} {d e x : List Int} {q : Nat} {f t : Nat → Int}
end
set_option maxHeartbeats 1000000 in
theorem specMinus (A C : Option Addr) (ca cc : Nat) (xs ys : List Int) (w : World) (hm : ys.length ≤ 1048576) (hl1 : xs.length ≤ ys.length) (h1 : IntS w w.heap.size A xs) (h2 : IntS w w.heap.size C ys) :
    Calls Try.prog 29 #[.slice A xs.length ca, .slice C ys.length cc] w (GivesInts w (subB xs ys)) := by
  obtain ⟨i0, hi, hz0, hz1, hz2⟩ := info_parts intInfo
  have HS := Lib.hid h1
  have HT := Lib.hid h2
  clear h1 h2
  go_enter Try.func29, Try.ntmps29
  go_wp2
  go_loopw [5, 11] (fun v i wr => ∃ k : Nat, k ≤ xs.length ∧ i = .int .i64 k ∧ wr.ownsRow w.heap.size 3 1 v k (intCells ((subB xs ys).take k)) ∧ Below w.heap.size w wr) (fun _ i _ => xs.length - (intOf i).toNat)
  case atStart =>
    refine ⟨0, Nat.zero_le _, rfl, ?_, (Below.refl _ _).alloc (Nat.le_refl _) _⟩
    exact ⟨rfl, .inr ⟨w.heap.size, 0, #[], rfl, Nat.le_refl _, heap_alloc_new w _, Nat.le_refl _, Nat.zero_le _, rfl, rfl⟩⟩
  case round =>
    obtain ⟨k, hk, rfl, hown, hb⟩ := hrel
    have HO := Lib.hid hown
    have hbn := hb.size
    clear hown
    by_cases hlt : k < xs.length
    · obtain ⟨b1, o1, x, rfl, hb1, he, hc0⟩ := (HS.out.below hb).at_ hlt
      obtain ⟨b2, o2, y, rfl, hb2, hf, hd0⟩ := (HT.out.below hb).at_ (k := k) (by omega)
      have hi0 : (0 : Int) ≤ (k : Int) := Int.natCast_nonneg _
      have hi1 : (k : Int) < (xs.length : Int) := by omega
      have hi2 : (k : Int) < (ys.length : Int) := by omega
      have HMT := Lib.hid (take_snocI (subB_at he hf))
      clear he hf
      go_wp2_with (at_builtin; refine wpList_append_own _ rfl _ _ 26 rfl w.heap.size 3 i0 (.int .i64 0) 1 8 Try.underlying26 hi hz0 hz1 hz2 rfl (by decide) _ _ _ rfl (HO.out.alloc _) ⟨wr.heap.size, 0, none⟩ 1 1 [.int .i64 (wrap64 (x - y))] rfl rfl ?c1 ?c2 ?c3 ?c4 ?c5 ?_)
      case c1 => exact one_cellI _ _ (by simp) _ _
      case c2 => simp [Value.oneCell']
      case c3 => unfold maxLen; omega
      case c4 => omega
      case c5 => simp; omega
      intro v' w1 hown' hgrow _
      have HO2 := Lib.hid hown'
      clear hown'
      go_wp2
      refine ⟨⟨k + 1, by omega, by go_num, ?_, (hb.alloc hb.size _).grown hgrow (by simp; omega) (fun q hq => (HO.out.lt q hq).1)⟩, by simp [intOf]; omega⟩
      have h3 := HO2.out
      rw [HMT.out]
      simpa [intCells] using h3
    · have HO3 := HO.out
      rw [show k = xs.length by omega, List.take_of_length_le (by rw [subB_len]; exact Nat.le_refl _)] at HO3
      obtain ⟨Ar, cr, rfl⟩ : ∃ Ar cr, u5 = .slice Ar xs.length cr := by
        rcases HO3.2 with ⟨h1, h2⟩ | ⟨g, cap, cur, h1, _⟩
        · exact ⟨none, 0, by rw [h1, h2]⟩
        · exact ⟨_, _, h1⟩
      have HF := Lib.hid (OwnI.of_own HO3)
      have HLM := Lib.hid (subB_len xs ys)
      clear HO3
      go_wp2
      go_ret
      exact ⟨Ar, cr, by rw [HLM.out]; rfl, HF.out, hb⟩
/-- the winning of any reduced one is that of the chosen one -/
theorem winX_of {M : Nat} {es : List (Int × Int)} {d : List Int} {f : Nat → Int} (hf : IsRed M es d 0 f) (hM0 : 0 < M) (hn : es.length ≤ 12) (hd : ∀ u, -100 ≤ d.getD u 0 ∧ d.getD u 0 ≤ 100) (hes : ∀ e ∈ es, 0 ≤ e.1 ∧ e.1 < e.2 ∧ e.2 < (M : Int)) : (chipsOf M (Dv d es f))[0]? = some (Dv d es f 0) ∧ winX M es d = decide (0 ≤ Dv d es f 0) := by
  have h1 := (redF_eq hf hM0 hn (fun u => by have := hd u; omega) hes).2
  have hb := Dv_bound (d := d) (M := M) hn (fun u => by have := hd u; omega) hes hf.bound 0
  have hb2 := Dv_bound (d := d) (M := M) hn (fun u => by have := hd u; omega) hes (redF_is hf).bound 0
  have h2 := chipsOf_at (Dv d es f) hM0
  have h3 := chipsOf_at (Dv d es (redF M es d 0)) hM0
  rw [wrap64_of (by omega) (by omega)] at h2 h3
  refine ⟨h2, ?_⟩
  rw [h1, h3] at h2
  injection h2 with h2
  unfold winX
  rw [h2]
set_option maxRecDepth 100000 in
set_option maxHeartbeats 2000000 in
theorem specWin7 (A D : Option Addr) (c cd M : Nat) (es : List (Int × Int)) (d : List Int) (w : World) (hM0 : 0 < M) (hM : M ≤ 6) (hd : d.length = M) (hn : es.length ≤ 12) (hes : ∀ e ∈ es, 0 ≤ e.1 ∧ e.1 < e.2 ∧ e.2 < (M : Int)) (hdb : ∀ u, -100 ≤ d.getD u 0 ∧ d.getD u 0 ≤ 100) (hc : Cut M es) (hE : EdgeS w w.heap.size A es) (hS : IntS w w.heap.size D d) :
    Calls Try.prog 33 #[.agg #[.int .i64 (M : Int), .slice A es.length c], .slice D d.length cd] w fun e w' => e = .returned (.bool (winX M es d)) ∧ Below w.heap.size w w' := by
  have HE := Lib.hid hE
  have HS := Lib.hid hS
  have G0 := GB.start w (M : Int) A c es
  have HR := fun w h1 h2 => Lib.hid (l05ReduceW_any A D c cd M 0 es d w hM0 hM hM0 hd hn hes hdb hc h1 h2)
  have HW := Lib.hid (fun (f : Nat → Int) (hf : IsRed M es d 0 f) => winX_of hf hM0 hn hdb hes)
  have HL := Lib.hid (fun f : Nat → Int => chipsOf_len M f)
  have hM1 : (0 : Int) < (M : Int) := by omega
  clear hE hS hdb hes hc hd hn
  go_enter Try.func33, Try.ntmps33
  go_wp2_with fail
  refine (HR _ (HE.out.up_ G0.old) (HS.out.up_ G0.old)).out.mono ?_
  rintro e w1 ⟨A1, A2, c1, c2, f, rfl, hf, ho, -, hb1⟩
  have G1 := Lib.hid (G0.next hb1)
  obtain ⟨p1, p2⟩ := HW.out f hf
  obtain ⟨b1, o1, x, rfl, hb1', he, hc0⟩ := ho.ints.at_ (k := 0) (by rw [HL.out]; exact hM0)
  rw [p1] at he
  rw [Nat.add_zero] at hc0
  injection he with he
  have HX := Lib.hid (show winX M es d = decide (0 ≤ x) by rw [p2, he])
  clear G0 hb1 he ho p1 p2 hf HR HW
  go_wp2
  go_ret
  exact ⟨ret_boolE (by rw [HX.out]), G1.out.old⟩
theorem ein_ctx {N : Int} {es : List (Int × Int)} {d : List Int} (h : einOk N es d = true) : ∃ M : Nat, N = (M : Int) ∧ 0 < M ∧ M ≤ 6 ∧ d.length = M ∧ es.length ≤ 12 ∧ (∀ e ∈ es, 0 ≤ e.1 ∧ e.1 < e.2 ∧ e.2 < (M : Int)) ∧ (∀ u, -60 ≤ d.getD u 0 ∧ d.getD u 0 ≤ 60) ∧ Cut M es ∧ sumV (fun u => d.getD u 0) M ≤ 7 := by
  simp only [einOk, Bool.and_eq_true, decide_eq_true_eq] at h
  obtain ⟨M, rfl, hM0, hM6, hn12, hdl, hes, hdb, hcn⟩ := div_limsB h.1
  refine ⟨M, rfl, hM0, hM6, hdl, hn12, hes, hdb, hcn.cut, ?_⟩
  have h1 := (deg_sum (xs := d) (fun u => by have := hdb u; omega) d.length (by omega)).1
  have h2 := h.2
  rw [h1, hdl] at h2
  exact h2
set_option maxRecDepth 100000 in
set_option maxHeartbeats 2000000 in
theorem l07Ok_any (N : Int) (A D : Option Addr) (c cd : Nat) (es : List (Int × Int)) (d : List Int) (w : World) (hn : es.length ≤ 1048576) (hd : d.length ≤ 1048576) (hE : EdgeS w w.heap.size A es) (hS : IntS w w.heap.size D d) :
    Calls Try.prog 32 #[.agg #[.int .i64 N, .slice A es.length c], .slice D d.length cd] w fun e w' => e = .returned (.bool (einOk N es d)) ∧ Below w.heap.size w w' := by
  have HE := Lib.hid hE
  have HS := Lib.hid hS
  clear hE hS
  have G0 := GB.start w N A c es
  have HD := fun w h1 h2 => Lib.hid (specDiv N A D c cd es d w hn hd h1 h2)
  have HX := fun w h1 => Lib.hid (specDeg D cd d w hd h1)
  cases h1 : divB 60 N es d with
  | false =>
    rw [h1] at HD
    rw [ein_no1 h1]
    clear h1 HX
    go_enter Try.func32, Try.ntmps32
    go_wp2_with fail
    refine (HD _ (HE.out.up_ G0.old) (HS.out.up_ G0.old)).out.mono ?_
    rintro e w1 ⟨rfl, hb1⟩
    have G1 := Lib.hid (G0.next hb1)
    clear G0 hb1
    go_wp2
    go_ret
    exact ⟨ret_boolE (by simp), G1.out.old⟩
  | true =>
    rw [h1] at HD
    have h3 : einOk N es d = decide (degB d d.length ≤ 7) := by simp [einOk, h1]
    rw [h3]
    clear h1 h3
    obtain ⟨k, hk⟩ : ∃ k, k = degB d d.length := ⟨_, rfl⟩
    rw [← hk] at HX ⊢
    clear hk
    go_enter Try.func32, Try.ntmps32
    go_wp2_with fail
    refine (HD _ (HE.out.up_ G0.old) (HS.out.up_ G0.old)).out.mono ?_
    rintro e w1 ⟨rfl, hb1⟩
    have G1 := Lib.hid (G0.next hb1)
    clear G0 hb1
    go_wp2_with fail
    refine (HX _ (HS.out.up_ G1.out.old)).out.mono ?_
    rintro e w2 ⟨rfl, hb2⟩
    have G2 := Lib.hid (G1.out.next hb2)
    clear hb2
    go_wp2
    go_ret
    exact ⟨ret_boolE (by simp), G2.out.old⟩
open Go.RowKit Go.Maps

def touch (v : Int) (e : Int × Int) : Bool := (e.1 == v) || (e.2 == v)
def valB (N : Int) (es : List (Int × Int)) (v : Int) : Int := if vB v N = true then (es.filter (touch v)).length else 0
theorem valB_no {N : Int} {es : List (Int × Int)} {v : Int} (h : vB v N = false) : valB N es v = 0 := by rw [valB, if_neg (by rw [h]; simp)]
theorem valB_yes {N : Int} {es : List (Int × Int)} {v : Int} (h : vB v N = true) : valB N es v = (es.filter (touch v)).length := by rw [valB, if_pos h]
theorem filter_snoc {es : List (Int × Int)} {k : Nat} {e : Int × Int} {p : Int × Int → Bool} (he : es[k]? = some e) : ((es.take (k + 1)).filter p).length = ((es.take k).filter p).length + if p e = true then 1 else 0 := by
  rw [List.take_add_one, he, List.filter_append]
  by_cases h : p e = true <;> simp [h]
theorem filter_le {es : List (Int × Int)} (k : Nat) (p : Int × Int → Bool) : ((es.take k).filter p).length ≤ k := by
  have h1 := List.length_filter_le p (es.take k)
  simp only [List.length_take] at h1
  omega

set_option maxHeartbeats 1000000 in
theorem specVal_yes (N : Int) (A : Option Addr) (c : Nat) (es : List (Int × Int)) (v : Int) (w : World) (hn : es.length ≤ 1048576) (ha : vB v N = true) (hE : EdgeS w w.heap.size A es) :
    Calls Try.prog 22 #[.agg #[.int .i64 N, .slice A es.length c], .int .i64 v] w fun e w' => e = .returned (.int .i64 (es.filter (touch v)).length) ∧ Below w.heap.size w w' := by
  have HE := Lib.hid hE
  clear hE
  go_enter Try.func22, Try.ntmps22
  go_wp2_with fail
  refine (l02Vert_any _ _ _ _ ⟨_, _, _, rfl⟩).mono ?_
  rintro e w1 ⟨rfl, hb1⟩
  have hk1 := (Blk.new w 30 #[.int .i64 N, .slice A es.length c]).below hb1 (by simp)
  have B1 := ((Below.refl w.heap.size w).alloc (Nat.le_refl _) (.cells #[.int .i64 N, .slice A es.length c] 30)).trans (hb1.mono (by simp))
  have c1 : w1.cell? ⟨w.heap.size, 1, none⟩ = some (.slice A es.length c) := by rw [hk1.cell]; rfl
  clear hb1 hk1
  go_wp2
  go_loopw [5, 15] (fun n i wr => ∃ k : Nat, k ≤ es.length ∧ i = .int .i64 k ∧ n = .int .i64 ((es.take k).filter (touch v)).length ∧ Below w.heap.size w wr) (fun _ i _ => es.length - (intOf i).toNat)
  case atStart => exact ⟨0, Nat.zero_le _, rfl, rfl, B1⟩
  case round =>
    obtain ⟨k, hk, rfl, rfl, hbw⟩ := hrel
    clear c1
    by_cases hlt : k < es.length
    · obtain ⟨b1, o1, e, rfl, hb1, he, hc0, hc1⟩ := (HE.out.below hbw).at_ hlt
      have hi0 : (0 : Int) ≤ (k : Int) := Int.natCast_nonneg _
      have hi1 : (k : Int) < (es.length : Int) := by omega
      have HS := Lib.hid (filter_snoc (p := touch v) he)
      have hcl := filter_le (es := es) k (touch v)
      have hz0 : (0 : Int) ≤ (((es.take k).filter (touch v)).length : Int) := Int.natCast_nonneg _
      clear he
      by_cases h1 : e.1 = v
      · have t1 : (e.1 == v) = true := by rw [beq_iff_eq]; exact h1
        have HQ := HS.out
        rw [if_pos (by simp [touch, h1])] at HQ
        have HQ2 := Lib.hid HQ
        clear HQ h1
        go_wp2
        exact ⟨⟨k + 1, by omega, by go_num, by rw [HQ2.out]; go_num, hbw.alloc hbw.size _⟩, by simp [intOf]; omega⟩
      · have t1 : (e.1 == v) = false := by rw [beq_eq_false_iff_ne]; exact h1
        by_cases h2 : e.2 = v
        · have t2 : (e.2 == v) = true := by rw [beq_iff_eq]; exact h2
          have HQ := HS.out
          rw [if_pos (by simp [touch, h2])] at HQ
          have HQ2 := Lib.hid HQ
          clear HQ h1 h2
          go_wp2
          exact ⟨⟨k + 1, by omega, by go_num, by rw [HQ2.out]; go_num, hbw.alloc hbw.size _⟩, by simp [intOf]; omega⟩
        · have t2 : (e.2 == v) = false := by rw [beq_eq_false_iff_ne]; exact h2
          have HQ := HS.out
          rw [if_neg (by simp [touch, h1, h2])] at HQ
          have HQ2 := Lib.hid HQ
          clear HQ h1 h2
          go_wp2
          exact ⟨⟨k + 1, by omega, by go_num, by rw [HQ2.out]; rfl, hbw.alloc hbw.size _⟩, by simp [intOf]; omega⟩
    · have HA := Lib.hid (show ((es.take k).filter (touch v)).length = (es.filter (touch v)).length by rw [List.take_of_length_le (by omega)])
      go_wp2
      go_ret
      exact ⟨ret_intE (congrArg Int.ofNat HA.out), hbw⟩
set_option maxHeartbeats 1000000 in
theorem specVal_no (N : Int) (A : Option Addr) (c : Nat) (es : List (Int × Int)) (v : Int) (w : World) (ha : vB v N = false) :
    Calls Try.prog 22 #[.agg #[.int .i64 N, .slice A es.length c], .int .i64 v] w fun e w' => e = .returned (.int .i64 0) ∧ Below w.heap.size w w' := by
  have B0 := (Below.refl w.heap.size w).alloc (Nat.le_refl _) (.cells #[.int .i64 N, .slice A es.length c] 30)
  go_enter Try.func22, Try.ntmps22
  go_wp2_with fail
  refine (l02Vert_any _ _ _ _ ⟨_, _, _, rfl⟩).mono ?_
  rintro e w1 ⟨rfl, hb1⟩
  go_wp2
  go_ret
  exact ⟨rfl, B0.trans (hb1.mono B0.size)⟩
theorem specValL (N : Int) (A : Option Addr) (c : Nat) (es : List (Int × Int)) (v : Int) (w : World) (hn : es.length ≤ 1048576) (_ : ∀ e ∈ es, (Lit.int .i64 e.1).wf = true ∧ (Lit.int .i64 e.2).wf = true) (_ : -9223372036854775808 ≤ N) (_ : N ≤ 9223372036854775807)
    (_ : -9223372036854775808 ≤ v) (_ : v ≤ 9223372036854775807) (hE : EdgeS w w.heap.size A es) :
    Calls Try.prog 22 #[.agg #[.int .i64 N, .slice A es.length c], .int .i64 v] w fun e w' => e = .returned (.int .i64 (valB N es v)) ∧ Below w.heap.size w w' := by
  cases h : vB v N with
  | false => rw [valB_no h]; exact specVal_no N A c es v w h
  | true => rw [valB_yes h]; exact specVal_yes N A c es v w hn h hE

/-! ### the sum over the map -/
theorem sum_step {es : List (Int × Int)} {left : Int × Int → Bool} {e : Int × Int} {v : Int} (hl : left e = true) :
    (es.filter (fun f => touch v f && !(left f && !(f == e)))).length = (es.filter (fun f => touch v f && !left f)).length + if touch v e = true then es.count e else 0 := by
  induction es with
  | nil => simp
  | cons f l ih =>
    rw [List.filter_cons, List.filter_cons, List.count_cons]
    by_cases hfe : f = e
    · subst hfe
      have p1 : (touch v f && !(left f && !(f == f))) = touch v f := by simp
      have p2 : (touch v f && !left f) = false := by simp [hl]
      rw [p1, p2]
      cases ht : touch v f with
      | true =>
        rw [ht] at ih
        simp only [if_true, List.length_cons, beq_self_eq_true, Bool.false_eq_true, if_false] at ih ⊢
        omega
      | false =>
        rw [ht] at ih
        simp only [Bool.false_eq_true, if_false] at ih ⊢
        exact ih
    · have p3 : (f == e) = false := by simp [hfe]
      have p4 : (touch v f && !(left f && !(f == e))) = (touch v f && !left f) := by rw [p3]; simp
      rw [p4, p3]
      simp only [Bool.false_eq_true, if_false, Nat.add_zero]
      cases hc : (touch v f && !left f) with
      | true =>
        simp only [if_true, List.length_cons]
        omega
      | false =>
        simp only [Bool.false_eq_true, if_false]
        exact ih
theorem sum_end {es : List (Int × Int)} {left : Int × Int → Bool} {v : Int} (h : ∀ e ∈ es, left e = false) : (es.filter (fun f => touch v f && !left f)).length = (es.filter (touch v)).length := by
  congr 1
  apply List.filter_congr
  intro e he
  rw [h e he]
  simp
theorem sum_start {es : List (Int × Int)} {v : Int} : (es.filter (fun f => touch v f && !es.contains f)).length = 0 := by
  rw [List.length_eq_zero_iff, List.filter_eq_nil_iff]
  intro e he
  simp [he]

set_option maxHeartbeats 1000000 in
theorem implVal_yes (N : Int) (A : Option Addr) (c : Nat) (es : List (Int × Int)) (v : Int) (w : World) (hn : es.length ≤ 1048576) (hw : ∀ e ∈ es, WfE e) (ha : vB v N = true) (hE : EdgeS w w.heap.size A es) :
    Calls Try.prog 25 #[.agg #[.int .i64 N, .slice A es.length c], .int .i64 v] w fun e w' => e = .returned (.int .i64 (es.filter (touch v)).length) ∧ Below w.heap.size w w' := by
  have HE := Lib.hid hE
  have HW := Lib.hid hw
  clear hE hw
  go_enter Try.func25, Try.ntmps25
  go_wp2_with fail
  refine (hasVertex_any _ _ _ _ ⟨_, _, _, rfl⟩).mono ?_
  rintro e w1 ⟨rfl, hb1⟩
  have hk1 := (Blk.new w 30 #[.int .i64 N, .slice A es.length c]).below hb1 (by simp)
  have B1 := ((Below.refl w.heap.size w).alloc (Nat.le_refl _) (.cells #[.int .i64 N, .slice A es.length c] 30)).trans (hb1.mono (by simp))
  have c0 : w1.cell? ⟨w.heap.size, 0, none⟩ = some (.int .i64 N) := by rw [hk1.cell]; rfl
  have c1 : w1.cell? ⟨w.heap.size, 1, none⟩ = some (.slice A es.length c) := by rw [hk1.cell]; rfl
  clear hb1 hk1
  go_wp2_with fail
  refine (countEdges_any _ _ _ _ _ hn HW.out (HE.out.up_ B1)).mono ?_
  rintro e w2 ⟨rfl, hcm2, hb2⟩
  have B2 := B1.trans (hb2.mono B1.size)
  have hsz1 := B1.size
  have HC2 := Lib.hid hcm2
  clear hcm2 hb2 c0 c1
  go_wp2_with (at_range; refine wp_range_edges _ rfl _ rfl _ _ rfl HC2.out ?_; intro w3 cnt0 hrg0 hb3 hsz3)
  go_frame
  go_loopw [5] (fun n wr => ∃ (left : Int × Int → Bool) (cnt : Nat), RG wr (w1.heap.size + 1) w2.heap.size es left cnt ∧ n = .int .i64 (es.filter (fun f => touch v f && !left f)).length ∧ Below w.heap.size w wr)
    (fun _ wr => wr.rangeLeft (w1.heap.size + 1) w2.heap.size)
  case atStart => exact ⟨_, cnt0, hrg0, by rw [sum_start]; rfl, B2.trans (hb3.mono B2.size)⟩
  case round =>
    obtain ⟨left, cnt, hrg, rfl, hbw⟩ := hrel
    have HR := Lib.hid hrg
    clear hrg hrg0
    go_wp2_with (at_next; refine wp_next_edges _ rfl _ rfl _ _ es left cnt rfl HR.out ?_ ?_)
    · intro hdone
      have HA := Lib.hid (sum_end (v := v) (fun e he => hdone e.1 e.2 (HW.out e he)))
      clear hdone
      go_wp2
      go_ret
      exact ⟨ret_intE (congrArg Int.ofNat HA.out), hbw⟩
    · intro x y w4 cnt4 hwe hle hrg4 hlt4 hg4 hs4 hen
      have hle' : left (x, y) = true := by assumption
      have HS := Lib.hid (sum_step (es := es) (v := v) hle')
      have HR4 := Lib.hid hrg4
      have HL := Lib.hid hrg4.left_eq
      have HL2 := Lib.hid HR.out.left_eq
      have B4 : Below w.heap.size w w4 := hbw.grown hg4 hbw.size (fun k hk => by cases hk; exact B2.size)
      have z0 : (0 : Int) ≤ ((es.filter (fun f => touch v f && !left f)).length : Int) := Int.natCast_nonneg _
      have z1 : ((es.filter (fun f => touch v f && !left f)).length : Int) ≤ 1048576 := by have := List.length_filter_le (fun f => touch v f && !left f) es; omega
      have z2 : (es.count (x, y) : Int) ≤ 1048576 := by have h1 : es.count (x, y) ≤ es.length := List.count_le_length; omega
      have z3 : (0 : Int) ≤ (es.count (x, y) : Int) := Int.natCast_nonneg _
      clear hrg4 hle
      by_cases h1 : x = v
      · have t1 : (x == v) = true := by rw [beq_iff_eq]; exact h1
        have HQ := HS.out
        rw [if_pos (by simp [touch, h1])] at HQ
        have HQ2 := Lib.hid HQ
        clear HQ h1
        go_wp2
        refine ⟨⟨_, cnt4, HR4.out.alloc _, by rw [HQ2.out]; go_num, B4.alloc B4.size _⟩, ?_⟩
        rw [(HR4.out.alloc _).left_eq, HL2.out]
        exact hlt4
      · have t1 : (x == v) = false := by rw [beq_eq_false_iff_ne]; exact h1
        by_cases h2 : y = v
        · have t2 : (y == v) = true := by rw [beq_iff_eq]; exact h2
          have HQ := HS.out
          rw [if_pos (by simp [touch, h2])] at HQ
          have HQ2 := Lib.hid HQ
          clear HQ h1 h2
          go_wp2
          refine ⟨⟨_, cnt4, HR4.out.alloc _, by rw [HQ2.out]; go_num, B4.alloc B4.size _⟩, ?_⟩
          rw [(HR4.out.alloc _).left_eq, HL2.out]
          exact hlt4
        · have t2 : (y == v) = false := by rw [beq_eq_false_iff_ne]; exact h2
          have HQ := HS.out
          rw [if_neg (by simp [touch, h1, h2])] at HQ
          have HQ2 := Lib.hid HQ
          clear HQ h1 h2
          go_wp2
          refine ⟨⟨_, cnt4, HR4.out.alloc _, by rw [HQ2.out]; rfl, B4.alloc B4.size _⟩, ?_⟩
          rw [(HR4.out.alloc _).left_eq, HL2.out]
          exact hlt4

set_option maxHeartbeats 1000000 in
theorem implVal_no (N : Int) (A : Option Addr) (c : Nat) (es : List (Int × Int)) (v : Int) (w : World) (ha : vB v N = false) :
    Calls Try.prog 25 #[.agg #[.int .i64 N, .slice A es.length c], .int .i64 v] w fun e w' => e = .returned (.int .i64 0) ∧ Below w.heap.size w w' := by
  have B0 := (Below.refl w.heap.size w).alloc (Nat.le_refl _) (.cells #[.int .i64 N, .slice A es.length c] 30)
  go_enter Try.func25, Try.ntmps25
  go_wp2_with fail
  refine (hasVertex_any _ _ _ _ ⟨_, _, _, rfl⟩).mono ?_
  rintro e w1 ⟨rfl, hb1⟩
  go_wp2
  go_ret
  exact ⟨rfl, B0.trans (hb1.mono B0.size)⟩
theorem implValL (N : Int) (A : Option Addr) (c : Nat) (es : List (Int × Int)) (v : Int) (w : World) (hn : es.length ≤ 1048576) (hw : ∀ e ∈ es, (Lit.int .i64 e.1).wf = true ∧ (Lit.int .i64 e.2).wf = true) (_ : -9223372036854775808 ≤ N) (_ : N ≤ 9223372036854775807)
    (_ : -9223372036854775808 ≤ v) (_ : v ≤ 9223372036854775807) (hE : EdgeS w w.heap.size A es) :
    Calls Try.prog 25 #[.agg #[.int .i64 N, .slice A es.length c], .int .i64 v] w fun e w' => e = .returned (.int .i64 (valB N es v)) ∧ Below w.heap.size w w' := by
  cases h : vB v N with
  | false => rw [valB_no h]; exact implVal_no N A c es v w h
  | true => rw [valB_yes h]; exact implVal_yes N A c es v w hn hw h hE
set_option maxHeartbeats 1000000 in
theorem isWonQ (pr pb g cg M : Nat) (xs : List Int) (w : World) (hl : xs.length = M) (hM : M ≤ 1048576) (c0 : w.cell? ⟨pr, 0, none⟩ = some (.pointer (some ⟨pb, 0, none⟩))) (b1 : w.cell? ⟨pb, 1, none⟩ = some (.slice (some ⟨g, 0, none⟩) M cg)) (hx : IntS w w.heap.size (some ⟨g, 0, none⟩) xs) :
    Calls Try.prog 35 #[.pointer (some ⟨pr, 0, none⟩)] w fun e w' => e = .returned (.bool (posAll xs)) ∧ Below w.heap.size w w' := by
  have HE := implEff (some ⟨g, 0, none⟩) cg xs w (by omega) hx
  rw [hl] at HE
  have HE2 := Lib.hid HE
  clear hx hl HE
  go_enter Try.func35, Try.ntmps35
  go_wp2_with fail
  refine HE2.out.mono ?_
  rintro e w1 ⟨rfl, hb⟩
  go_wp2
  go_ret
  exact ⟨rfl, hb⟩
end Go.Proofs.Ytpifbegafnhclaa
