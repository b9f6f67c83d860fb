/- The program's board: send and fire. -/
import Derived.Test.YtcfhkaefjhcglaaMv
import Derived.Test.YtcfhkaefjhcglaaBG
import Derived.Test.YtcfhkaefjhcglaaBA
import Derived.Test.YtcfhkaefjhcglaaBF
namespace Go.Proofs.Ytcfhkaefjhcglaa
open Go.RowKit

/-- the numbers of a list lie at the head of the block g, and may be written -/
structure Chips (w : World) (g : Nat) (l : List Int) : Prop where
  lt : g < w.heap.size
  cell : ∀ (i : Nat) (z : Int), l[i]? = some z → w.cell? ⟨g, i, none⟩ = some (.int .i64 z) ∧ w.frozen? ⟨g, i, none⟩ = false
section
variable {w w' : World} {g lo hi : Nat} {l : List Int}
theorem Chips.moves (h : Chips w g l) (m : Moves lo hi w w') (h1 : g < lo ∨ hi ≤ g) : Chips w' g l := by
  have hbl := m.block g h.lt h1
  exact ⟨Nat.lt_of_lt_of_le h.lt m.size, fun i z hz => ⟨(World.cell?_of_block (a := ⟨g, i, none⟩) hbl).trans (h.cell i z hz).1, (World.frozen?_of_block (a := ⟨g, i, none⟩) hbl).trans (h.cell i z hz).2⟩⟩
theorem Chips.below (h : Chips w g l) (hb : Below w.heap.size w w') : Chips w' g l := h.moves (belowMv hb 0) (.inr (Nat.zero_le _))
theorem Chips.set_ (h : Chips w g l) {a : Nat} (ha : a < l.length) (x : Int) : Chips (w.setCell ⟨g, a, none⟩ (.int .i64 x)) g (l.set a x) := by
  refine ⟨by simpa [World.setCell] using h.lt, fun i z hz => ?_⟩
  obtain ⟨h1, h2⟩ := h.cell a _ (List.getElem?_eq_getElem ha)
  by_cases e : i = a
  · subst e
    rw [List.getElem?_set_self ha] at hz
    injection hz with hz
    subst hz
    exact ⟨World.cell?_setCell_same _ _ _ h1, by rw [World.frozen?_setCell]; exact h2⟩
  · rw [List.getElem?_set_ne (Ne.symm e)] at hz
    obtain ⟨h3, h4⟩ := h.cell i z hz
    exact ⟨by rw [World.cell?_setCell_other _ _ _ _ (by simp only [ne_eq, Addr.mk.injEq]; omega)]; exact h3, by rw [World.frozen?_setCell]; exact h4⟩
theorem Chips.ints (h : Chips w g l) : IntS w w.heap.size (some ⟨g, 0, none⟩) l := fun _ => ⟨g, 0, rfl, h.lt, fun i z hz => by rw [Nat.zero_add]; exact (h.cell i z hz).1⟩
theorem Chips.own {base : Nat} (h : Chips w g l) (hg : base ≤ g) : OwnI w base (some ⟨g, 0, none⟩) l := fun _ => ⟨g, 0, rfl, hg, h.lt, fun i z hz => by rw [Nat.zero_add]; exact h.cell i z hz⟩
theorem Chips.of_own {base n : Nat} {v : Value} (h : w.ownsRow base 3 1 v n (intCells l)) (hn : 0 < n) : ∃ g c : Nat, v = .slice (some ⟨g, 0, none⟩) n c ∧ base ≤ g ∧ Chips w g l := by
  obtain ⟨hl, h⟩ := h
  rcases h with ⟨_, h0⟩ | ⟨g, cap, cur, hv, hb, hh, hnc, _, hcs, htk⟩
  · omega
  · have hblk : Blk w g 3 cur := hh
    refine ⟨g, cap, hv, hb, hblk.lt, fun i z hz => ⟨?_, hblk.frozen _⟩⟩
    have hi : i < l.length := (List.getElem?_eq_some_iff.1 hz).1
    have hln : l.length = n := by simpa [intCells] using hl
    rw [hblk.cell]
    have : (cur.toList.take (n * 1))[i]? = some (.int .i64 z) := by rw [htk]; simp [intCells, hz]
    rw [List.getElem?_take_of_lt (by omega)] at this
    simpa using this
end

/-- t chips from a to b -/
def Sent (w : World) (g M : Nat) (f : Nat → Int) (e : Ending) (w' : World) : Prop := e = .returned (.tuple #[]) ∧ Chips w' g (chipsOf M f) ∧ Moves g (g + 1) w w'
set_option maxHeartbeats 400000 in
theorem send_any (p g M cg a b : Nat) (n cA : Nat) (A : Option Addr) (f : Nat → Int) (t : Int) (w : World) (hpg : p ≠ g) (ha : a < M) (hb : b < M) (hB : Blk w p 69 #[.slice A n cA, .slice (some ⟨g, 0, none⟩) M cg]) (hC : Chips w g (chipsOf M f)) :
    Calls Try.prog 96 #[.pointer (some ⟨p, 0, none⟩), .int .i64 (a : Int), .int .i64 (b : Int), .int .i64 t] w (Sent w g M (addAt (addAt f a (-t)) b t)) := by
  have c1 : w.cell? ⟨p, 1, none⟩ = some (.slice (some ⟨g, 0, none⟩) M cg) := by rw [hB.cell]; rfl
  obtain ⟨d0, f0⟩ := hC.cell a _ (chipsOf_at f ha)
  have hx0 : wrap64 (wrap64 (f a) - t) = wrap64 (f a + -t) := by rw [wrap64_subL, Int.sub_eq_add_neg]
  have hC1 := hC.set_ (a := a) (by rw [chipsOf_len]; exact ha) (wrap64 (wrap64 (f a) - t))
  rw [chipsOf_set M f a _ (-t) hx0] at hC1
  obtain ⟨d1, f1⟩ := hC1.cell b _ (chipsOf_at _ hb)
  have hx1 : wrap64 (wrap64 (addAt f a (-t) b) + t) = wrap64 (addAt f a (-t) b + t) := wrap64_addL _ _
  have hC2 := hC1.set_ (a := b) (by rw [chipsOf_len]; exact hb) (wrap64 (wrap64 (addAt f a (-t) b) + t))
  rw [chipsOf_set M _ b _ t hx1] at hC2
  have hM2 := ((Moves.refl w g (g + 1)).set_ a (.int .i64 (wrap64 (wrap64 (f a) - t)))).set_ b (.int .i64 (wrap64 (wrap64 (addAt f a (-t) b) + t)))
  have HC2 := Lib.hid hC2
  have HM2 := Lib.hid hM2
  have ha0 : (0 : Int) ≤ (a : Int) := Int.natCast_nonneg _
  have hb0 : (0 : Int) ≤ (b : Int) := Int.natCast_nonneg _
  have ha1 : (a : Int) < (M : Int) := by omega
  have hb1 : (b : Int) < (M : Int) := by omega
  have hgp : g ≠ p := Ne.symm hpg
  clear hC hC1 hC2 hM2 hx0 hx1 hB
  go_enter Try.func96, Try.ntmps96
  go_wp2
  go_end0
  exact ⟨rfl, HC2.out, HM2.out⟩

set_option maxHeartbeats 1000000 in
theorem fire_any (p g M cg cA B : Nat) (A : Option Addr) (es : List (Int × Int)) (f : Nat → Int) (v t : Int) (w : World) (hpg : p ≠ g) (hBg : B ≤ g) (hBw : B ≤ w.heap.size) (hn : es.length ≤ 12) (hes : ∀ e ∈ es, 0 ≤ e.1 ∧ e.1 < e.2 ∧ e.2 < (M : Int))
    (hB : Blk w p 69 #[.slice A es.length cA, .slice (some ⟨g, 0, none⟩) M cg]) (hC : Chips w g (chipsOf M f)) (hE : EdgeS w B A es) :
    Calls Try.prog 65 #[.pointer (some ⟨p, 0, none⟩), .int .i64 v, .int .i64 t] w (Sent w g M (fireF f v t es)) := by
  have b0 : w.cell? ⟨p, 0, none⟩ = some (.slice A es.length cA) := by rw [hB.cell]; rfl
  have HB := Lib.hid hB
  have HE := Lib.hid hE
  have HS := Lib.hid hes
  have HC := Lib.hid hC
  have HI := Lib.hid hpg
  clear hB hE hes hC hpg
  go_enter Try.func65, Try.ntmps65
  go_wp2
  go_loopw [13] (fun i wr => ∃ k : Nat, k ≤ es.length ∧ i = .int .i64 k ∧ Chips wr g (chipsOf M (fireF f v t (es.take k))) ∧ Moves g (g + 1) w wr) (fun i _ => es.length - (intOf i).toNat)
  case atStart => exact ⟨0, Nat.zero_le _, rfl, by rw [List.take_zero, fireF_nil]; exact HC.out, Moves.refl _ _ _⟩
  case round =>
    obtain ⟨k, hk, rfl, hch, hmv⟩ := hrel
    have HK := Lib.hid hch
    have HM := Lib.hid hmv
    clear hch hmv b0
    by_cases hlt : k < es.length
    · obtain ⟨b1, o1, e, rfl, hb1, he, hc0, hc1⟩ := (HE.out.below (HM.out.below hBg hBw)).at_ hlt
      obtain ⟨h1, h2, h3⟩ := HS.out e (List.mem_of_getElem? he)
      have HFS := fun u => Lib.hid (fireF_step f v t he u)
      clear he
      obtain ⟨x, y⟩ := e
      simp only at h1 h2 h3 hc0 hc1 HFS
      obtain ⟨a, rfl⟩ : ∃ a : Nat, x = (a : Int) := ⟨x.toNat, by omega⟩
      obtain ⟨b, rfl⟩ : ∃ b : Nat, y = (b : Int) := ⟨y.toNat, by omega⟩
      have hi0 : (0 : Int) ≤ (k : Int) := Int.natCast_nonneg _
      have hi1 : (k : Int) < (es.length : Int) := by omega
      have ha : a < M := by omega
      have hb : b < M := by omega
      have hab : a ≠ b := by omega
      have HAB := Lib.hid hab
      have hmA : Moves g (g + 1) wr (wr.alloc (Obj.cells #[.int .i64 (a : Int), .int .i64 (b : Int)] 74)) := (Moves.refl _ _ _).alloc _
      have HCA := Lib.hid (HK.out.below ((Below.refl _ _).alloc (Nat.le_refl _) (Obj.cells #[.int .i64 (a : Int), .int .i64 (b : Int)] 74)))
      have HBA := Lib.hid ((HB.out.moves HM.out (by have := HI.out; omega)).moves hmA (by have := HI.out; omega))
      have HMA := Lib.hid (HM.out.trans hmA)
      clear hab hmA h1 h2 h3
      by_cases hv1 : v = (a : Int)
      · have t1 : (v == (a : Int)) = true := by simp [hv1]
        have HF : Hid (chipsOf M (addAt (addAt (fireF f v t (es.take k)) a (-t)) b t) = chipsOf M (fireF f v t (es.take (k + 1)))) := Lib.hid (chipsOf_eq fun u _ => by
          rw [send_f _ _ _ _ HAB.out, (HFS u).out, net_1 (v := v) (e := ((a : Int), (b : Int))) hv1])
        clear HFS hv1
        go_wp2_with fail
        refine (send_any p g M cg a b _ _ _ _ t _ HI.out ha hb HBA.out HCA.out).mono ?_
        rintro e w2 ⟨rfl, hc2, hm2⟩
        rw [HF.out] at hc2
        have HC2 := Lib.hid hc2
        have HM2 := Lib.hid (HMA.out.trans hm2)
        clear hc2 hm2
        go_wp2
        exact ⟨⟨k + 1, by omega, by go_num, HC2.out, HM2.out⟩, by simp [intOf]; omega⟩
      · have t1 : (v == (a : Int)) = false := by simp [hv1]
        by_cases hv2 : v = (b : Int)
        · have t2 : (v == (b : Int)) = true := by simp [hv2]
          have HF : Hid (chipsOf M (addAt (addAt (fireF f v t (es.take k)) b (-t)) a t) = chipsOf M (fireF f v t (es.take (k + 1)))) := Lib.hid (chipsOf_eq fun u _ => by
            rw [send_f _ _ _ _ (Ne.symm HAB.out), (HFS u).out, net_2 (v := v) (e := ((a : Int), (b : Int))) hv1 hv2])
          clear HFS hv1 hv2
          go_wp2_with fail
          refine (send_any p g M cg b a _ _ _ _ t _ HI.out hb ha HBA.out HCA.out).mono ?_
          rintro e w2 ⟨rfl, hc2, hm2⟩
          rw [HF.out] at hc2
          have HC2 := Lib.hid hc2
          have HM2 := Lib.hid (HMA.out.trans hm2)
          clear hc2 hm2
          go_wp2
          exact ⟨⟨k + 1, by omega, by go_num, HC2.out, HM2.out⟩, by simp [intOf]; omega⟩
        · have t2 : (v == (b : Int)) = false := by simp [hv2]
          have HF : Hid (chipsOf M (fireF f v t (es.take k)) = chipsOf M (fireF f v t (es.take (k + 1)))) := Lib.hid (chipsOf_eq fun u _ => by
            rw [(HFS u).out, net_0 (v := v) (e := ((a : Int), (b : Int))) hv1 hv2]; simp)
          clear HFS hv1 hv2
          have hcA := HCA.out
          rw [HF.out] at hcA
          have HCA2 := Lib.hid hcA
          clear hcA
          go_wp2
          exact ⟨⟨k + 1, by omega, by go_num, HCA2.out, HMA.out⟩, by simp [intOf]; omega⟩
    · have hK2 := HK.out
      rw [List.take_of_length_le (by omega)] at hK2
      have HK2 := Lib.hid hK2
      clear hK2
      go_wp2
      go_end0
      exact ⟨rfl, HK2.out, HM.out⟩
end Go.Proofs.Ytcfhkaefjhcglaa
