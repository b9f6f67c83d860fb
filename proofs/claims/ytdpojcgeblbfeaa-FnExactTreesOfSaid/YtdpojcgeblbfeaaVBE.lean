/- One text out of several: QKeep ValS LapS LapSW LapSL LapI LapK LapIW LapL. -/
import Derived.Test.YtdpojcgeblbfeaaVBB
import Derived.Test.YtdpojcgeblbfeaaVBC
import Derived.Test.YtdpojcgeblbfeaaVBF
import Derived.Test.YtdpojcgeblbfeaaVBA
set_option linter.all false
/- Queues kept from world to world. -/
namespace Go.Proofs.Ytdpojcgeblbfeaa
open Go.RowKit

theorem QOwn.below {w w' : World} {base : Nat} {v : Value} {q : List Int} (h : QOwn w base v q) (hb : Below w.heap.size w w') : QOwn w' base v q :=
  World.ownsRow.kept h (row := none) ⟨hb.os, hb.tape, hb.output, hb.size, fun i hi _ => hb.block i hi⟩ (Classical.em _)
theorem QOwn.set {w : World} {base b o n c g i : Nat} {q : List Int} {u : Value} (h : QOwn w base (.slice (some ⟨b, o, none⟩) n c) q) (hg : g < base) : QOwn (w.setCell ⟨g, i, none⟩ u) base (.slice (some ⟨b, o, none⟩) n c) q :=
  World.ownsRow.kept h (setCell_grown w g i u) (.inr (by have := h.block; simp only [Value.ownBlock, ne_eq, Option.some.injEq]; omega))
end Go.Proofs.Ytdpojcgeblbfeaa

/- Valence: the specification's loop over the edges and the program's sum over the map of counts are one plain number. -/
namespace Go.Proofs.Ytdpojcgeblbfeaa
open Go.RowKit Go.Maps

def touch (v : Int) (e : Int × Int) : Bool := (e.1 == v) || (e.2 == v)
def valB (N : Int) (es : List (Int × Int)) (v : Int) : Int := if vB v N = true then (es.filter (touch v)).length else 0
theorem valB_no {N : Int} {es : List (Int × Int)} {v : Int} (h : vB v N = false) : valB N es v = 0 := by rw [valB, if_neg (by rw [h]; simp)]
theorem valB_yes {N : Int} {es : List (Int × Int)} {v : Int} (h : vB v N = true) : valB N es v = (es.filter (touch v)).length := by rw [valB, if_pos h]
theorem filter_snoc {es : List (Int × Int)} {k : Nat} {e : Int × Int} {p : Int × Int → Bool} (he : es[k]? = some e) : ((es.take (k + 1)).filter p).length = ((es.take k).filter p).length + if p e = true then 1 else 0 := by
  rw [List.take_add_one, he, List.filter_append]
  by_cases h : p e = true <;> simp [h]
theorem filter_le {es : List (Int × Int)} (k : Nat) (p : Int × Int → Bool) : ((es.take k).filter p).length ≤ k := by
  have h1 := List.length_filter_le p (es.take k)
  simp only [List.length_take] at h1
  omega

set_option maxHeartbeats 1000000 in
theorem specVal_yes (N : Int) (A : Option Addr) (c : Nat) (es : List (Int × Int)) (v : Int) (w : World) (hn : es.length ≤ 1048576) (ha : vB v N = true) (hE : EdgeS w w.heap.size A es) :
    Calls Try.prog 123 #[.agg #[.int .i64 N, .slice A es.length c], .int .i64 v] w fun e w' => e = .returned (.int .i64 (es.filter (touch v)).length) ∧ Below w.heap.size w w' := by
  have HE := Lib.hid hE
  clear hE
  go_enter Try.func123, Try.ntmps123
  go_wp2_with fail
  refine (l02Vert_any _ _ _ _ ⟨_, _, _, rfl⟩).mono ?_
  rintro e w1 ⟨rfl, hb1⟩
  have hk1 := (Blk.new w 25 #[.int .i64 N, .slice A es.length c]).below hb1 (by simp)
  have B1 := ((Below.refl w.heap.size w).alloc (Nat.le_refl _) (.cells #[.int .i64 N, .slice A es.length c] 25)).trans (hb1.mono (by simp))
  have c1 : w1.cell? ⟨w.heap.size, 1, none⟩ = some (.slice A es.length c) := by rw [hk1.cell]; rfl
  clear hb1 hk1
  go_wp2
  go_loopw [5, 15] (fun n i wr => ∃ k : Nat, k ≤ es.length ∧ i = .int .i64 k ∧ n = .int .i64 ((es.take k).filter (touch v)).length ∧ Below w.heap.size w wr) (fun _ i _ => es.length - (intOf i).toNat)
  case atStart => exact ⟨0, Nat.zero_le _, rfl, rfl, B1⟩
  case round =>
    obtain ⟨k, hk, rfl, rfl, hbw⟩ := hrel
    clear c1
    by_cases hlt : k < es.length
    · obtain ⟨b1, o1, e, rfl, hb1, he, hc0, hc1⟩ := (HE.out.below hbw).at_ hlt
      have hi0 : (0 : Int) ≤ (k : Int) := Int.natCast_nonneg _
      have hi1 : (k : Int) < (es.length : Int) := by omega
      have HS := Lib.hid (filter_snoc (p := touch v) he)
      have hcl := filter_le (es := es) k (touch v)
      have hz0 : (0 : Int) ≤ (((es.take k).filter (touch v)).length : Int) := Int.natCast_nonneg _
      clear he
      by_cases h1 : e.1 = v
      · have t1 : (e.1 == v) = true := by rw [beq_iff_eq]; exact h1
        have HQ := HS.out
        rw [if_pos (by simp [touch, h1])] at HQ
        have HQ2 := Lib.hid HQ
        clear HQ h1
        go_wp2
        exact ⟨⟨k + 1, by omega, by go_num, by rw [HQ2.out]; go_num, hbw.alloc hbw.size _⟩, by simp [intOf]; omega⟩
      · have t1 : (e.1 == v) = false := by rw [beq_eq_false_iff_ne]; exact h1
        by_cases h2 : e.2 = v
        · have t2 : (e.2 == v) = true := by rw [beq_iff_eq]; exact h2
          have HQ := HS.out
          rw [if_pos (by simp [touch, h2])] at HQ
          have HQ2 := Lib.hid HQ
          clear HQ h1 h2
          go_wp2
          exact ⟨⟨k + 1, by omega, by go_num, by rw [HQ2.out]; go_num, hbw.alloc hbw.size _⟩, by simp [intOf]; omega⟩
        · have t2 : (e.2 == v) = false := by rw [beq_eq_false_iff_ne]; exact h2
          have HQ := HS.out
          rw [if_neg (by simp [touch, h1, h2])] at HQ
          have HQ2 := Lib.hid HQ
          clear HQ h1 h2
          go_wp2
          exact ⟨⟨k + 1, by omega, by go_num, by rw [HQ2.out]; rfl, hbw.alloc hbw.size _⟩, by simp [intOf]; omega⟩
    · have HA := Lib.hid (show ((es.take k).filter (touch v)).length = (es.filter (touch v)).length by rw [List.take_of_length_le (by omega)])
      go_wp2
      go_ret
      exact ⟨ret_intE (congrArg Int.ofNat HA.out), hbw⟩
set_option maxHeartbeats 1000000 in
theorem specVal_no (N : Int) (A : Option Addr) (c : Nat) (es : List (Int × Int)) (v : Int) (w : World) (ha : vB v N = false) :
    Calls Try.prog 123 #[.agg #[.int .i64 N, .slice A es.length c], .int .i64 v] w fun e w' => e = .returned (.int .i64 0) ∧ Below w.heap.size w w' := by
  have B0 := (Below.refl w.heap.size w).alloc (Nat.le_refl _) (.cells #[.int .i64 N, .slice A es.length c] 25)
  go_enter Try.func123, Try.ntmps123
  go_wp2_with fail
  refine (l02Vert_any _ _ _ _ ⟨_, _, _, rfl⟩).mono ?_
  rintro e w1 ⟨rfl, hb1⟩
  go_wp2
  go_ret
  exact ⟨rfl, B0.trans (hb1.mono B0.size)⟩
theorem specValL (N : Int) (A : Option Addr) (c : Nat) (es : List (Int × Int)) (v : Int) (w : World) (hn : es.length ≤ 1048576) (_ : ∀ e ∈ es, (Lit.int .i64 e.1).wf = true ∧ (Lit.int .i64 e.2).wf = true) (_ : -9223372036854775808 ≤ N) (_ : N ≤ 9223372036854775807)
    (_ : -9223372036854775808 ≤ v) (_ : v ≤ 9223372036854775807) (hE : EdgeS w w.heap.size A es) :
    Calls Try.prog 123 #[.agg #[.int .i64 N, .slice A es.length c], .int .i64 v] w fun e w' => e = .returned (.int .i64 (valB N es v)) ∧ Below w.heap.size w w' := by
  cases h : vB v N with
  | false => rw [valB_no h]; exact specVal_no N A c es v w h
  | true => rw [valB_yes h]; exact specVal_yes N A c es v w hn h hE

/-! ### the sum over the map -/
end Go.Proofs.Ytdpojcgeblbfeaa

/- The specification's LaplacianOf. -/
namespace Go.Proofs.Ytdpojcgeblbfeaa
open Go.RowKit

def lapE (M : Nat) (es : List (Int × Int)) (a b : Nat) : Int := if a = b then valB M es a else - multB M es a b
def lapR (M : Nat) (es : List (Int × Int)) (a : Nat) : List Int := (List.range M).map fun b => lapE M es a b
def lapM (M : Nat) (es : List (Int × Int)) : List (List Int) := (List.range M).map fun a => lapR M es a
theorem lapR_len (M : Nat) (es : List (Int × Int)) (a : Nat) : (lapR M es a).length = M := by simp [lapR]
theorem lapM_len (M : Nat) (es : List (Int × Int)) : (lapM M es).length = M := by simp [lapM]
theorem lapR_at {M : Nat} (es : List (Int × Int)) (a : Nat) {b : Nat} (h : b < M) : (lapR M es a)[b]? = some (lapE M es a b) := by simp [lapR, h]
theorem lapM_at {M : Nat} (es : List (Int × Int)) {a : Nat} (h : a < M) : (lapM M es)[a]? = some (lapR M es a) := by simp [lapM, h]

theorem own_types {w : World} {base e1 e2 s1 s2 n1 n2 : Nat} {v1 v2 : Value} {x1 x2 : List Value} (h1 : w.ownsRow base e1 s1 v1 n1 x1) (h2 : w.ownsRow base e2 s2 v2 n2 x2) (hne : e1 ≠ e2) : v1.ownBlock = none ∨ v1.ownBlock ≠ v2.ownBlock := by
  rcases h1.2 with ⟨e, _⟩ | ⟨g, cap, cur, e, _, hg, _⟩
  · left; rw [e]; rfl
  · right
    rw [e]
    rcases h2.2 with ⟨e', _⟩ | ⟨g', cap', cur', e', _, hg', _⟩
    · rw [e']; simp [Value.ownBlock]
    · rw [e']
      simp only [Value.ownBlock, ne_eq, Option.some.injEq]
      rintro rfl
      rw [hg] at hg'
      injection hg' with hg'
      injection hg' with _ ht _
      exact hne ht
def SSOwn (w : World) (base : Nat) (v : Value) (rs : List (List Int)) : Prop :=
  ∃ vs : List Value, w.ownsRow base 28 1 v rs.length vs ∧ ∀ (i : Nat) (r : List Int), rs[i]? = some r → ∃ u, vs[i]? = some u ∧ QOwn w base u r
theorem SSOwn.kept {w w' : World} {base : Nat} {v : Value} {rs : List (List Int)} (h : SSOwn w base v rs) (hb : Below w.heap.size w w') : SSOwn w' base v rs := by
  obtain ⟨vs, h1, h2⟩ := h
  refine ⟨vs, h1.kept (row := none) ⟨hb.os, hb.tape, hb.output, hb.size, fun i hi _ => hb.block i hi⟩ (Classical.em _), fun i r hr => ?_⟩
  obtain ⟨u, hu, hq⟩ := h2 i r hr
  exact ⟨u, hu, hq.below hb⟩
theorem SSOwn.rows {w : World} {base : Nat} {v : Value} {rs : List (List Int)} (h : SSOwn w base v rs) : ∃ Ar cr, v = .slice Ar rs.length cr ∧ IntSS w w.heap.size Ar rs := by
  obtain ⟨vs, h1, h2⟩ := h
  obtain ⟨hl, h3⟩ := h1
  rcases h3 with ⟨e, e0⟩ | ⟨g, cap, cur, e, hb, hg, hnc, _, hcs, htk⟩
  · refine ⟨none, 0, by rw [e, e0], fun hn => ?_⟩
    omega
  · refine ⟨some ⟨g, 0, none⟩, cap, e, fun hn => ?_⟩
    have hblk : Blk w g 28 cur := hg
    refine ⟨g, 0, rfl, hblk.lt, fun i r hr => ?_⟩
    obtain ⟨u, hu, hq⟩ := h2 i r hr
    obtain ⟨Ai, ci, rfl⟩ := hq.slice
    refine ⟨Ai, ci, ?_, hq.ints⟩
    have hi : i < rs.length := (List.getElem?_eq_some_iff.1 hr).1
    rw [hblk.cell, Nat.zero_add]
    rw [← htk, List.getElem?_take_of_lt (by omega)] at hu
    simpa using hu
theorem SSOwn.push {w w1 : World} {base : Nat} {v v' u : Value} {rs : List (List Int)} {r : List Int} {vs : List Value} (h1 : w.ownsRow base 28 1 v rs.length vs) (h2 : ∀ (i : Nat) (r : List Int), rs[i]? = some r → ∃ u, vs[i]? = some u ∧ QOwn w base u r)
    (hr : QOwn w base u r) (ho : w1.ownsRow base 28 1 v' (rs.length + 1) (vs ++ [u])) (hg : w.grownBy w1 v.ownBlock) : SSOwn w1 base v' (rs ++ [r]) := by
  have keep : ∀ {x : Value} {p : List Int}, QOwn w base x p → QOwn w1 base x p := fun hq => World.ownsRow.kept hq hg (own_types hq h1 (by decide))
  have hl : vs.length = rs.length := by have := h1.1; omega
  refine ⟨vs ++ [u], by simpa using ho, fun i p hp => ?_⟩
  rcases Nat.lt_or_ge i rs.length with l | l
  · rw [List.getElem?_append_left l] at hp
    obtain ⟨x, hx, hq⟩ := h2 i p hp
    exact ⟨x, by rw [List.getElem?_append_left (by omega)]; exact hx, keep hq⟩
  · rw [List.getElem?_append_right l] at hp
    have hi : i - rs.length = 0 := by
      have := (List.getElem?_eq_some_iff.1 hp).1
      simp at this
      omega
    rw [hi] at hp
    simp only [List.getElem?_cons_zero, Option.some.injEq] at hp
    subst hp
    exact ⟨u, by rw [List.getElem?_append_right (by omega), hl, hi]; rfl, keep hr⟩
end Go.Proofs.Ytdpojcgeblbfeaa

/- The walk of the specification's LaplacianOf. -/
namespace Go.Proofs.Ytdpojcgeblbfeaa
open Go.RowKit

theorem ownsRow_mono {w : World} {base base' e s n : Nat} {v : Value} {xs : List Value} (h : w.ownsRow base e s v n xs) (hb : base' ≤ base) : w.ownsRow base' e s v n xs := by
  obtain ⟨h1, h2⟩ := h
  refine ⟨h1, ?_⟩
  rcases h2 with h2 | ⟨g, cap, cur, e1, h3, h4⟩
  · exact .inl h2
  · exact .inr ⟨g, cap, cur, e1, by omega, h4⟩
theorem own_empty (w : World) (base : Nat) (hb : base ≤ w.heap.size) (t : TypeId) : (w.alloc (.cells #[] t)).ownsRow base t 1 (.slice (some ⟨w.heap.size, 0, none⟩) 0 0) 0 [] :=
  ⟨rfl, .inr ⟨w.heap.size, 0, #[], rfl, hb, heap_alloc_new w _, Nat.le_refl _, Nat.zero_le _, rfl, rfl⟩⟩
theorem multB_bound (N : Int) (es : List (Int × Int)) (a b : Int) : 0 ≤ multB N es a b ∧ multB N es a b ≤ es.length := by
  unfold multB
  split
  · have : es.count (min a b, max a b) ≤ es.length := List.count_le_length
    omega
  · omega
theorem lapR_take {M : Nat} (es : List (Int × Int)) (a : Nat) {b : Nat} (h : b < M) : (lapR M es a).take (b + 1) = (lapR M es a).take b ++ [lapE M es a b] := by
  rw [List.take_add_one, lapR_at es a h]
  rfl
theorem lapM_take {M : Nat} (es : List (Int × Int)) {a : Nat} (h : a < M) : (lapM M es).take (a + 1) = (lapM M es).take a ++ [lapR M es a] := by
  rw [List.take_add_one, lapM_at es h]
  rfl
theorem lapE_eq (M : Nat) (es : List (Int × Int)) (a : Nat) : lapE M es a a = valB M es a := by rw [lapE, if_pos rfl]
theorem lapE_ne (M : Nat) (es : List (Int × Int)) {a b : Nat} (h : a ≠ b) : lapE M es a b = - multB M es a b := by rw [lapE, if_neg h]
theorem rowsInfo : (Try.prog.info? 28).map (fun i => (i.zero, i.size, i.bytes)) = some (some (.slice none 0 0), 1, 24) := by kernel_rfl

theorem SSOwn.mono {w : World} {base base' : Nat} {v : Value} {rs : List (List Int)} (h : SSOwn w base v rs) (hb : base' ≤ base) : SSOwn w base' v rs := by
  obtain ⟨vs, h1, h2⟩ := h
  refine ⟨vs, ownsRow_mono h1 hb, fun i r hr => ?_⟩
  obtain ⟨u, hu, hq⟩ := h2 i r hr
  exact ⟨u, hu, ownsRow_mono hq hb⟩
def GivesOwn (w : World) (rs : List (List Int)) (e : Ending) (w' : World) : Prop := ∃ v, e = .returned v ∧ SSOwn w' w.heap.size v rs ∧ Below w.heap.size w w'
set_option maxRecDepth 100000 in
set_option maxHeartbeats 4000000 in
theorem specLap_own (M : Nat) (A : Option Addr) (c : Nat) (es : List (Int × Int)) (w : World) (hB : graphB M es = true) (hE : EdgeS w w.heap.size A es) :
    Calls Try.prog 179 #[.agg #[.int .i64 (M : Int), .slice A es.length c]] w (GivesOwn w (lapM M es)) := by
  obtain ⟨i0, hi, hz0, hz1, hz2⟩ := info_parts intInfo
  obtain ⟨i1, hj, hy0, hy1, hy2⟩ := info_parts rowsInfo
  obtain ⟨hEB, _⟩ := graphB_all hB
  obtain ⟨hN1, hN6, hn12⟩ := edgesB_lims hEB
  have HWF := Lib.hid (edge_wf hEB)
  have HE := Lib.hid hE
  clear hE hEB
  have hb0 : Below w.heap.size w (w.alloc (Obj.cells #[.int .i64 (M : Int), .slice A es.length c] 25)) := (Below.refl _ _).alloc (Nat.le_refl _) _
  go_enter Try.func179, Try.ntmps179
  go_wp2_with fail
  refine (specGraphOk _ _ _ _ _ (by omega) (HE.out.up_ hb0)).mono ?_
  rintro e w1 ⟨rfl, hb1⟩
  have hbb : Below w.heap.size w w1 := hb0.trans (hb1.mono hb0.size)
  have hx1 := (Blk.new w 25 #[.int .i64 (M : Int), .slice A es.length c]).below hb1 (by simp)
  have hlx := hx1.lt
  have HX1 := Lib.hid hx1
  clear hb0 hb1 hx1
  go_wp2_with fail
  go_loopw [3, 4] (fun s i wr => ∃ a : Nat, a ≤ M ∧ i = .int .i64 a ∧ SSOwn wr (w.heap.size + 1) s ((lapM M es).take a) ∧ Blk wr w.heap.size 25 #[.int .i64 (M : Int), .slice A es.length c] ∧ Below w.heap.size w wr) (fun _ i _ => M - (intOf i).toNat)
  case atStart => exact ⟨0, Nat.zero_le _, rfl, ⟨[], own_empty w1 _ (by omega) _, fun i r h => by simp at h⟩, HX1.out.alloc _, hbb.alloc hbb.size _⟩
  case round =>
    obtain ⟨a, ha, rfl, hss, hbx, hb⟩ := hrel
    have HS := Lib.hid hss
    have HBX := Lib.hid hbx
    have hlb := hbx.lt
    have g0 : wr.cell? ⟨w.heap.size, 0, none⟩ = some (.int .i64 (M : Int)) := by rw [hbx.cell]; rfl
    have g1 : wr.cell? ⟨w.heap.size, 1, none⟩ = some (.slice A es.length c) := by rw [hbx.cell]; rfl
    clear hss hbx
    by_cases hlt : a < M
    · have ha0 : (0 : Int) ≤ (a : Int) := Int.natCast_nonneg _
      have ha1 : (a : Int) < (M : Int) := by omega
      obtain ⟨wo, rfl⟩ : ∃ wo : World, wo = wr := ⟨_, rfl⟩
      go_wp2
      go_loopw [5, 6] (fun s i wr => ∃ b : Nat, b ≤ M ∧ i = .int .i64 b ∧ QOwn wr wo.heap.size s ((lapR M es a).take b) ∧ Below wo.heap.size wo wr) (fun _ i _ => M - (intOf i).toNat)
      case atStart => exact ⟨0, Nat.zero_le _, rfl, own_empty wo _ (Nat.le_refl _) _, (Below.refl _ _).alloc (Nat.le_refl _) _⟩
      case round =>
        obtain ⟨b, hb', rfl, hq, hb2⟩ := hrel
        have HQ := Lib.hid hq
        have hB2 : Below w.heap.size w wr := hb.trans (hb2.mono hb.size)
        have hx2 := HBX.out.below hb2 hlb
        have k0 : wr.cell? ⟨w.heap.size, 0, none⟩ = some (.int .i64 (M : Int)) := by rw [hx2.cell]; rfl
        have k1 : wr.cell? ⟨w.heap.size, 1, none⟩ = some (.slice A es.length c) := by rw [hx2.cell]; rfl
        have hs2 := hb2.size
        have hbl : ((lapR M es a).take b).length = b := by rw [List.length_take, lapR_len]; omega
        clear hq hx2 g0 g1
        by_cases hlt2 : b < M
        · have hb0' : (0 : Int) ≤ (b : Int) := Int.natCast_nonneg _
          have hb1' : (b : Int) < (M : Int) := by omega
          by_cases hab : a = b
          · subst hab
            go_wp2_with fail
            refine (specValL _ _ _ _ _ _ (by omega) HWF.out (by omega) (by omega) (by omega) (by omega) (HE.out.up_ hB2)).mono ?_
            rintro e w3 ⟨rfl, hb3⟩
            have HQ3 := Lib.hid (HQ.out.below hb3)
            have hs3 := hb3.size
            go_wp2_with (at_builtin; refine wpList_append_own _ rfl _ _ 28 rfl wo.heap.size 3 i0 (.int .i64 0) 1 8 Try.underlying28 hi hz0 hz1 hz2 rfl (by decide) _ _ _ rfl (World.ownsRow.alloc HQ3.out _) ⟨w3.heap.size, 0, none⟩ 1 1 [.int .i64 (valB (M : Int) es (a : Int))] rfl rfl ?c1 ?c2 ?c3 ?c4 ?c5 ?_)
            case c1 => exact one_cell _ _ (by simp) _ _
            case c2 => simp [Value.oneCell']
            case c3 => unfold maxLen; omega
            case c4 => omega
            case c5 => simp; omega
            intro v' w4 hown' hgrow _
            have HQ4 : Hid (QOwn w4 wo.heap.size v' ((lapR M es a).take (a + 1))) := Lib.hid (by
              rw [lapR_take es a hlt2, lapE_eq]
              unfold QOwn
              rw [← cells_snoc, List.length_append, hbl]
              exact hown')
            have hb4 : Below wo.heap.size wo w4 := ((hb2.trans (hb3.mono hs2)).alloc (by omega) (Obj.cells #[.int .i64 (valB (M : Int) es (a : Int))] 3)).grown hgrow (by simp; omega) (fun q hq => (World.ownsRow.lt HQ3.out q hq).1)
            clear hown' hgrow
            go_wp2
            exact ⟨⟨a + 1, by omega, by go_num, HQ4.out, hb4⟩, by simp [intOf]; omega⟩
          · have tab : ((a : Int) == (b : Int)) = false := by simp; omega
            go_wp2_with fail
            refine (specMultU _ _ _ _ _ _ _ (by omega) (HE.out.up_ hB2)).mono ?_
            rintro e w3 ⟨rfl, hb3⟩
            have HQ3 := Lib.hid (HQ.out.below hb3)
            have hs3 := hb3.size
            obtain ⟨mb0, mb1⟩ := multB_bound (M : Int) es (a : Int) (b : Int)
            have hw : IntKind.i64.wrap (-(multB (M : Int) es (a : Int) (b : Int))) = -(multB (M : Int) es (a : Int) (b : Int)) := by rw [IntKind.wrap_i64]; omega
            go_wp2_with (at_builtin; refine wpList_append_own _ rfl _ _ 28 rfl wo.heap.size 3 i0 (.int .i64 0) 1 8 Try.underlying28 hi hz0 hz1 hz2 rfl (by decide) _ _ _ rfl (World.ownsRow.alloc HQ3.out _) ⟨w3.heap.size, 0, none⟩ 1 1 [.int .i64 (-(multB (M : Int) es (a : Int) (b : Int)))] rfl rfl ?c1 ?c2 ?c3 ?c4 ?c5 ?_)
            case c1 => exact one_cell _ _ (by simp) _ _
            case c2 => simp [Value.oneCell']
            case c3 => unfold maxLen; omega
            case c4 => omega
            case c5 => simp; omega
            intro v' w4 hown' hgrow _
            have HQ4 : Hid (QOwn w4 wo.heap.size v' ((lapR M es a).take (b + 1))) := Lib.hid (by
              rw [lapR_take es a hlt2, lapE_ne M es hab]
              unfold QOwn
              rw [← cells_snoc, List.length_append, hbl]
              exact hown')
            have hb4 : Below wo.heap.size wo w4 := ((hb2.trans (hb3.mono hs2)).alloc (by omega) (Obj.cells #[.int .i64 (-(multB (M : Int) es (a : Int) (b : Int)))] 3)).grown hgrow (by simp; omega) (fun q hq => (World.ownsRow.lt HQ3.out q hq).1)
            clear hown' hgrow
            go_wp2
            exact ⟨⟨b + 1, by omega, by go_num, HQ4.out, hb4⟩, by simp [intOf]; omega⟩
        · have hbM : b = M := by omega
          have hq2 := HQ.out
          rw [List.take_of_length_le (by rw [lapR_len]; omega)] at hq2
          obtain ⟨Ap, cp, hu⟩ := hq2.slice
          rw [lapR_len] at hu
          subst hu
          have hss2 := (HS.out.kept hb2).kept ((Below.refl wr.heap.size wr).alloc (Nat.le_refl _) (Obj.cells #[.slice Ap M cp] 28))
          obtain ⟨vs, hv1, hv2⟩ := hss2
          have hqA := QOwn.alloc hq2 (Obj.cells #[.slice Ap M cp] 28)
          have hal : ((lapM M es).take a).length = a := by rw [List.length_take, lapM_len]; omega
          have HV := Lib.hid hv1
          have HV2 := Lib.hid hv2
          have HQA : Hid (QOwn (wr.alloc (Obj.cells #[.slice Ap M cp] 28)) (w.heap.size + 1) (.slice Ap M cp) (lapR M es a)) := Lib.hid (ownsRow_mono hqA (by omega))
          clear hq2 hv1 hv2 hqA
          go_wp2_with (at_builtin; refine wpList_append_own _ rfl _ _ 41 rfl (w.heap.size + 1) 28 i1 (.slice none 0 0) 1 24 Try.underlying41 hj hy0 hy1 hy2 rfl (by decide) _ _ _ rfl HV.out ⟨wr.heap.size, 0, none⟩ 1 1 [.slice Ap M cp] rfl rfl ?c1 ?c2 ?c3 ?c4 ?c5 ?_)
          case c1 => exact one_cell _ _ (by simp) _ _
          case c2 => simp [Value.oneCell']
          case c3 => unfold maxLen; omega
          case c4 => omega
          case c5 => simp; omega
          intro v' w4 hown' hgrow _
          have HS4 : Hid (SSOwn w4 (w.heap.size + 1) v' ((lapM M es).take (a + 1))) := Lib.hid (by
            rw [lapM_take es hlt]
            exact SSOwn.push HV.out HV2.out HQA.out (by rw [hal]; exact hown') hgrow)
          have hbx4 := ((HBX.out.below hb2 hlb).alloc (Obj.cells #[.slice Ap M cp] 28)).grown hgrow (fun h => by have := (World.ownsRow.lt HV.out _ h).1; omega)
          have hb4 : Below w.heap.size w w4 := (hB2.alloc hB2.size (Obj.cells #[.slice Ap M cp] 28)).grown hgrow (by simp; have := hB2.size; omega) (fun q hq => by have := (World.ownsRow.lt HV.out q hq).1; omega)
          have HBX4 := Lib.hid hbx4
          clear hown' hgrow hbx4
          go_wp2
          exact ⟨⟨a + 1, by omega, by go_num, HS4.out, HBX4.out, hb4⟩, by simp [intOf]; omega⟩
    · have hs2 := HS.out
      rw [List.take_of_length_le (by rw [lapM_len]; omega)] at hs2
      obtain ⟨Ar, cr, hu, _⟩ := hs2.rows
      have HS2 := Lib.hid (hs2.mono (base' := w.heap.size) (by omega))
      clear hs2
      subst hu
      go_wp2
      go_ret
      exact ⟨_, rfl, HS2.out, hb⟩
end Go.Proofs.Ytdpojcgeblbfeaa

/- The specification's LaplacianOf, whatever the graph. -/
namespace Go.Proofs.Ytdpojcgeblbfeaa
open Go.RowKit

end Go.Proofs.Ytdpojcgeblbfeaa

/- Matrices in memory of the call's own, written cell by cell (for the program's LaplacianOf). -/
namespace Go.Proofs.Ytdpojcgeblbfeaa
open Go.RowKit

def mat (M : Nat) (f : Nat → Nat → Int) : List (List Int) := (List.range M).map fun a => (List.range M).map fun b => f a b
theorem mat_len (M : Nat) (f : Nat → Nat → Int) : (mat M f).length = M := by simp [mat]
theorem mat_at {M : Nat} (f : Nat → Nat → Int) {a : Nat} (h : a < M) : (mat M f)[a]? = some ((List.range M).map fun b => f a b) := by simp [mat, h]
def bump (f : Nat → Nat → Int) (a b : Nat) (x : Int) : Nat → Nat → Int := fun i j => if i = a ∧ j = b then x else f i j
theorem mat_bump {M a b : Nat} (f : Nat → Nat → Int) (x : Int) : (mat M f).set a (((List.range M).map fun j => f a j).set b x) = mat M (bump f a b x) := by
  apply List.ext_getElem?
  intro i
  by_cases hi : i < M
  · rw [mat_at _ hi]
    by_cases e : a = i
    · subst e
      rw [List.getElem?_set_self (by rw [mat_len]; exact hi)]
      congr 1
      apply List.ext_getElem?
      intro j
      by_cases hj : j < M
      · by_cases e2 : b = j
        · subst e2
          rw [List.getElem?_set_self (by simpa using hj)]
          simp [bump, hj]
        · rw [List.getElem?_set_ne e2]
          have : ¬ j = b := fun h => e2 h.symm
          simp [bump, hj, this]
      · rw [List.getElem?_eq_none (by simp; omega), List.getElem?_eq_none (by simp; omega)]
    · rw [List.getElem?_set_ne e, mat_at _ hi]
      have : ¬ i = a := fun h => e h.symm
      simp [bump, this]
  · rw [List.getElem?_eq_none (by rw [List.length_set, mat_len]; omega), List.getElem?_eq_none (by rw [mat_len]; omega)]

theorem RowsTo.write {w : World} {g hi a b : Nat} {rs : List (List Int)} {r : List Int} (h : RowsTo w g hi rs rs.length) (hr : rs[a]? = some r) (x : Int) :
    ∃ ga : Nat, g < ga ∧ ga < hi ∧ w.cell? ⟨g, a, none⟩ = some (.slice (some ⟨ga, 0, none⟩) r.length r.length) ∧ Blk w ga 3 (intCells r).toArray ∧
      RowsTo (w.setCell ⟨ga, b, none⟩ (.int .i64 x)) g hi (rs.set a (r.set b x)) (rs.set a (r.set b x)).length := by
  obtain ⟨vals, G, h1, h2, h3, h4⟩ := h
  have ha : a < rs.length := (List.getElem?_eq_some_iff.1 hr).1
  obtain ⟨q1, q2, q3, q4⟩ := h3 a r ha hr
  refine ⟨G a, q2, q3, ?_, q4, ?_⟩
  · rw [h1.cell, List.getElem?_toArray, List.getElem?_append_left (by omega)]
    exact q1
  · rw [List.length_set]
    refine ⟨vals, G, ?_, h2, fun i p hi' hp => ?_, h4⟩
    · rw [List.length_set]
      exact h1.far (p := ⟨G a, b, none⟩) (by simp only; omega) _
    · by_cases e : a = i
      · subst e
        rw [List.getElem?_set_self ha] at hp
        injection hp with hp
        subst hp
        rw [List.length_set]
        refine ⟨q1, q2, q3, ?_⟩
        have h5 := q4.set_ b (.int .i64 x)
        rw [List.setIfInBounds_toArray] at h5
        have : (intCells r).set b (.int .i64 x) = intCells (r.set b x) := by simp [intCells, List.map_set]
        rwa [this] at h5
      · rw [List.getElem?_set_ne e] at hp
        obtain ⟨p1, p2, p3, p4⟩ := h3 i p hi' hp
        refine ⟨p1, p2, p3, p4.far (p := ⟨G a, b, none⟩) ?_ _⟩
        simp only
        rcases Nat.lt_or_gt_of_ne e with l | l
        · have := h4 a i l hi'; omega
        · have := h4 i a l ha; omega
end Go.Proofs.Ytdpojcgeblbfeaa

/- The matrix after some of the edges (for the program's LaplacianOf): the plain math. -/
namespace Go.Proofs.Ytdpojcgeblbfeaa
open Go.RowKit

def lapK (es : List (Int × Int)) (k : Nat) (a b : Nat) : Int :=
  if a = b then (((es.take k).filter (touch (a : Int))).length : Int) else -((es.take k).count (min (a : Int) (b : Int), max (a : Int) (b : Int)) : Int)
theorem lapK_zero (es : List (Int × Int)) : lapK es 0 = fun _ _ => 0 := by
  funext a b
  simp [lapK]
theorem lapK_bound (es : List (Int × Int)) (k : Nat) (a b : Nat) : -(es.length : Int) ≤ lapK es k a b ∧ lapK es k a b ≤ es.length := by
  unfold lapK
  have hl : (es.take k).length ≤ es.length := by simp; omega
  split
  · have := List.length_filter_le (touch (a : Int)) (es.take k)
    omega
  · have : (es.take k).count (min (a : Int) (b : Int), max (a : Int) (b : Int)) ≤ (es.take k).length := List.count_le_length
    omega
theorem lapK_step {es : List (Int × Int)} {k x y : Nat} (he : es[k]? = some ((x : Int), (y : Int))) (hxy : x < y) :
    lapK es (k + 1) = bump (bump (bump (bump (lapK es k) x x (lapK es k x x + 1)) y y (lapK es k y y + 1)) x y (lapK es k x y - 1)) y x (lapK es k y x - 1) := by
  have hf : ∀ v : Int, ((es.take (k + 1)).filter (touch v)).length = ((es.take k).filter (touch v)).length + if touch v ((x : Int), (y : Int)) = true then 1 else 0 := fun v => by
    rw [List.take_add_one, he]
    simp only [Option.toList, List.filter_append, List.length_append]
    congr 1
    by_cases h : touch v ((x : Int), (y : Int)) = true
    · rw [if_pos h, List.filter_cons_of_pos h]; rfl
    · rw [if_neg h, List.filter_cons_of_neg h]; rfl
  have hc : ∀ f : Int × Int, (es.take (k + 1)).count f = (es.take k).count f + if ((x : Int), (y : Int)) = f then 1 else 0 := fun f => count_snoc he
  funext a b
  by_cases hab : a = b
  · subst hab
    have h1 : lapK es (k + 1) a a = lapK es k a a + if touch (a : Int) ((x : Int), (y : Int)) = true then 1 else 0 := by
      simp only [lapK, if_true]
      rw [hf]
      split <;> simp
    rw [h1]
    by_cases hx : a = x
    · subst hx
      have h2 : ¬ a = y := by omega
      simp [bump, touch, h2]
    · by_cases hy : a = y
      · subst hy
        simp [bump, touch, hx]
      · have h3 : ¬ (x : Int) = (a : Int) := by omega
        have h4 : ¬ (y : Int) = (a : Int) := by omega
        simp [bump, touch, hx, hy, h3, h4]
  · have h1 : lapK es (k + 1) a b = lapK es k a b - if ((x : Int), (y : Int)) = (min (a : Int) (b : Int), max (a : Int) (b : Int)) then 1 else 0 := by
      simp only [lapK, if_neg hab]
      rw [hc]
      split <;> simp <;> omega
    rw [h1]
    by_cases hx : a = x ∧ b = y
    · obtain ⟨rfl, rfl⟩ := hx
      have h2 : ¬ b = a := by omega
      have e1 : min (a : Int) (b : Int) = a := by omega
      have e2 : max (a : Int) (b : Int) = b := by omega
      simp [bump, hab, h2, e1, e2]
    · by_cases hy : a = y ∧ b = x
      · obtain ⟨rfl, rfl⟩ := hy
        have h2 : ¬ b = a := by omega
        have e1 : min (a : Int) (b : Int) = b := by omega
        have e2 : max (a : Int) (b : Int) = a := by omega
        simp [bump, e1, e2]
      · have hne : ¬ (((x : Int), (y : Int)) = (min (a : Int) (b : Int), max (a : Int) (b : Int))) := by
          intro h
          injection h with h3 h4
          rcases Nat.lt_or_gt_of_ne hab with l | l
          · exact hx ⟨by omega, by omega⟩
          · exact hy ⟨by omega, by omega⟩
        rw [if_neg hne]
        have g1 : ¬ (a = x ∧ b = x) := fun h => hab (h.1.trans h.2.symm)
        have g2 : ¬ (a = y ∧ b = y) := fun h => hab (h.1.trans h.2.symm)
        simp only [bump, if_neg hx, if_neg hy, if_neg g1, if_neg g2]
        omega
theorem lapK_all (M : Nat) (es : List (Int × Int)) : mat M (lapK es es.length) = lapM M es := by
  apply List.ext_getElem?
  intro a
  by_cases ha : a < M
  · rw [mat_at _ ha, lapM_at es ha]
    congr 1
    apply List.ext_getElem?
    intro b
    by_cases hb : b < M
    · rw [lapR_at es a hb, List.getElem?_map, List.getElem?_range hb]
      simp only [Option.map_some, Option.some.injEq]
      unfold lapK lapE
      by_cases hab : a = b
      · rw [if_pos hab, if_pos hab, List.take_length, valB_yes (vB_t (by omega))]
      · rw [if_neg hab, if_neg hab, List.take_length, multB_yes (vB_t (by omega)) (vB_t (by omega)) (by omega)]
    · rw [List.getElem?_eq_none (by simp; omega), List.getElem?_eq_none (by rw [lapR_len]; omega)]
  · rw [List.getElem?_eq_none (by rw [mat_len]; omega), List.getElem?_eq_none (by rw [lapM_len]; omega)]
end Go.Proofs.Ytdpojcgeblbfeaa

/- The walk of the program's LaplacianOf. -/
namespace Go.Proofs.Ytdpojcgeblbfeaa
open Go.RowKit

theorem zero_row (M : Nat) {k : Nat} (h : k < M) : (mat M fun _ _ => 0)[k]? = some (List.replicate M 0) := by
  rw [mat_at _ h]
  congr 1
  apply List.ext_getElem?
  intro j
  rw [List.getElem?_map, List.getElem?_replicate]
  split
  · rw [List.getElem?_range (by assumption)]; rfl
  · rw [List.getElem?_eq_none (by simp; omega)]; rfl

theorem mat_write {W : World} {go hi M a b : Nat} {f : Nat → Nat → Int} (h : RowsTo W go hi (mat M f) M) (ha : a < M) (hb : b < M) :
    ∃ ga : Nat, go < ga ∧ ga < hi ∧ W.cell? ⟨go, a, none⟩ = some (.slice (some ⟨ga, 0, none⟩) M M) ∧ W.cell? ⟨ga, b, none⟩ = some (.int .i64 (f a b)) ∧ W.frozen? ⟨ga, b, none⟩ = false ∧
      ∀ x, RowsTo (W.setCell ⟨ga, b, none⟩ (.int .i64 x)).drew go hi (mat M (bump f a b x)) M := by
  have h' : RowsTo W go hi (mat M f) (mat M f).length := by rw [mat_len]; exact h
  obtain ⟨ga, h1, h2, h3, h4, _⟩ := RowsTo.write (b := b) h' (mat_at f ha) 0
  refine ⟨ga, h1, h2, by simpa using h3, blk_get h4 (by simp [hb]), h4.frozen _, fun x => ?_⟩
  obtain ⟨ga', _, _, h3', _, h5⟩ := RowsTo.write (b := b) h' (mat_at f ha) x
  rw [h3] at h3'
  simp only [Option.some.injEq, Value.slice.injEq, Addr.mk.injEq, and_true] at h3'
  obtain ⟨rfl, _⟩ := h3'
  rw [mat_bump, mat_len] at h5
  exact h5
theorem two_cellsL {w : World} {g : Nat} {t : TypeId} {u v : Value} (h : Blk w g t #[u, v]) : w.cell? ⟨g, 0, none⟩ = some u ∧ w.cell? ⟨g, 1, none⟩ = some v := ⟨by rw [h.cell]; rfl, by rw [h.cell]; rfl⟩

set_option maxRecDepth 100000 in
set_option maxHeartbeats 4000000 in
theorem implLap_yes (M : Nat) (A : Option Addr) (c : Nat) (es : List (Int × Int)) (w : World) (hB : graphB M es = true) (hE : EdgeS w w.heap.size A es) :
    Calls Try.prog 184 #[.agg #[.int .i64 (M : Int), .slice A es.length c]] w (fun e w' => ∃ g : Nat, e = .returned (.slice (some ⟨g, 0, none⟩) M M) ∧ w.heap.size ≤ g ∧ RowsTo w' g w'.heap.size (lapM M es) M ∧ Below w.heap.size w w') := by
  obtain ⟨hEB, _⟩ := graphB_all hB
  obtain ⟨hN1, hN6, hn12⟩ := edgesB_lims hEB
  have hmr := make_rows M (by omega)
  have hmi := make_ints M (by omega)
  have HEB := Lib.hid hEB
  have HE := Lib.hid hE
  clear hE hEB
  have hb0 : Below w.heap.size w (w.alloc (Obj.cells #[.int .i64 (M : Int), .slice A es.length c] 25)) := (Below.refl _ _).alloc (Nat.le_refl _) _
  go_enter Try.func184, Try.ntmps184
  go_wp2_with fail
  refine (implGraphOk _ _ _ _ _ (by omega) (HE.out.up_ hb0)).mono ?_
  rintro e w1 ⟨rfl, hb1⟩
  have hbb : Below w.heap.size w w1 := hb0.trans (hb1.mono hb0.size)
  have hx1 := (Blk.new w 25 #[.int .i64 (M : Int), .slice A es.length c]).below hb1 (by simp)
  have c0 : w1.cell? ⟨w.heap.size, 0, none⟩ = some (.int .i64 (M : Int)) := by rw [hx1.cell]; rfl
  have c1 : w1.cell? ⟨w.heap.size, 1, none⟩ = some (.slice A es.length c) := by rw [hx1.cell]; rfl
  have hlx := hx1.lt
  have HX1 := Lib.hid hx1
  clear hb0 hb1 hx1
  go_wp2_with fail
  go_loopw [15] (fun i wr => ∃ k : Nat, k ≤ M ∧ i = .int .i64 k ∧ RowsTo wr w1.heap.size wr.heap.size (mat M fun _ _ => 0) k ∧ w1.heap.size < wr.heap.size ∧ Blk wr w.heap.size 25 #[.int .i64 (M : Int), .slice A es.length c] ∧ Below w.heap.size w wr) (fun i _ => M - (intOf i).toNat)
  case atStart => exact ⟨0, Nat.zero_le _, rfl, ⟨[], fun _ => 0, by rw [mat_len]; exact Blk.new w1 _ _, rfl, fun i r hi _ => absurd hi (by omega), fun i j _ hj => absurd hj (by omega)⟩, by simp, HX1.out.alloc _, hbb.alloc hbb.size _⟩
  case round =>
    obtain ⟨k, hk, rfl, hrow, hlt0, hbx, hb⟩ := hrel
    have HR := Lib.hid hrow
    have HBX := Lib.hid hbx
    have hlb := hbx.lt
    have g0 : wr.cell? ⟨w.heap.size, 0, none⟩ = some (.int .i64 (M : Int)) := by rw [hbx.cell]; rfl
    have g1 : wr.cell? ⟨w.heap.size, 1, none⟩ = some (.slice A es.length c) := by rw [hbx.cell]; rfl
    clear hrow hbx
    by_cases hlt : k < M
    · have hk0 : (0 : Int) ≤ (k : Int) := Int.natCast_nonneg _
      have hk1 : (k : Int) < (M : Int) := by omega
      obtain ⟨hcl, hfr⟩ := HR.out.cell (by rw [mat_len]; exact hlt)
      have hbA : Below wr.heap.size wr (wr.alloc (Obj.cells (intCells (List.replicate M 0)).toArray 3)) := (Below.refl _ _).alloc (Nat.le_refl _) _
      have hput := ((HR.out.below hbA).put (zero_row M hlt) hlt0 (Blk.new wr 3 (intCells (List.replicate M 0)).toArray))
      rw [List.length_replicate, World.setCell_alloc_past _ _ _ _ hlt0] at hput
      have hbx5 := (HBX.out.far (p := ⟨w1.heap.size, k, none⟩) (by simp only; have := hbb.size; omega) (.slice (some ⟨wr.heap.size, 0, none⟩) M M)).alloc (Obj.cells (intCells (List.replicate M 0)).toArray 3)
      have hb5 : Below w.heap.size w ((wr.setCell ⟨w1.heap.size, k, none⟩ (.slice (some ⟨wr.heap.size, 0, none⟩) M M)).alloc (Obj.cells (intCells (List.replicate M 0)).toArray 3)) := (hb.setCell (p := ⟨w1.heap.size, k, none⟩) hbb.size _).alloc (by simp; omega) _
      have hsz5 : ((wr.setCell ⟨w1.heap.size, k, none⟩ (.slice (some ⟨wr.heap.size, 0, none⟩) M M)).alloc (Obj.cells (intCells (List.replicate M 0)).toArray 3)).heap.size = wr.heap.size + 1 := by simp
      have HSZ := Lib.hid hsz5
      have HBX5 := Lib.hid hbx5
      have HB5 := Lib.hid hb5
      clear hsz5 hbx5 hb5
      have HP := Lib.hid hput
      clear hput
      go_wp2
      exact ⟨⟨k + 1, by omega, by go_num, HP.out.more (by rw [HSZ.out]; omega), by rw [HSZ.out]; omega, HBX5.out, HB5.out⟩, by simp [intOf]; omega⟩
    · obtain rfl : M = k := by omega
      have hr0 := HR.out
      rw [← lapK_zero es] at hr0
      have HR0 := Lib.hid hr0
      clear hr0 hmr hmi
      obtain ⟨hi0, hhi⟩ : ∃ x, x = wr.heap.size := ⟨_, rfl⟩
      rw [← hhi] at HR0
      have hhi2 : hi0 ≤ wr.heap.size := by omega
      clear hhi
      go_wp2_with fail
      go_loopw [28] (fun i wr => ∃ m : Nat, m ≤ es.length ∧ i = .int .i64 m ∧ RowsTo wr w1.heap.size hi0 (mat M (lapK es m)) M ∧ hi0 ≤ wr.heap.size ∧ Below w.heap.size w wr) (fun i _ => es.length - (intOf i).toNat)
      case atStart => exact ⟨0, Nat.zero_le _, rfl, HR0.out, hhi2, hb⟩
      case round =>
        obtain ⟨m, hm, rfl, hrow, hsz, hb2⟩ := hrel
        have HR2 := Lib.hid hrow
        clear hrow
        by_cases hlt2 : m < es.length
        · skip
          obtain ⟨b1, o1, e, rfl, hb1, he, hc0, hc1⟩ := (HE.out.below hb2).at_ hlt2
          obtain ⟨hA, hB', hC⟩ := all_edge HEB.out (List.mem_of_getElem? he)
          obtain ⟨x0, y0⟩ := e
          simp only at hA hB' hC
          obtain ⟨x, rfl⟩ : ∃ x : Nat, x0 = (x : Int) := ⟨x0.toNat, by omega⟩
          obtain ⟨y, rfl⟩ : ∃ y : Nat, y0 = (y : Int) := ⟨y0.toNat, by omega⟩
          have hxM : x < M := by omega
          have hyM : y < M := by omega
          have hxi : (0 : Int) ≤ (x : Int) := Int.natCast_nonneg _
          have hyi : (0 : Int) ≤ (y : Int) := Int.natCast_nonneg _
          have hxj : (x : Int) < (M : Int) := by omega
          have hyj : (y : Int) < (M : Int) := by omega
          have hm0 : (0 : Int) ≤ (m : Int) := Int.natCast_nonneg _
          have hm1 : (m : Int) < (es.length : Int) := by omega
          have HST := Lib.hid (lapK_step he (by omega))
          have hxy : x < y := by omega
          have b11 := lapK_bound es m x x
          have b22 := lapK_bound es m y y
          have b12 := lapK_bound es m x y
          have b21 := lapK_bound es m y x
          have hblw : b1 < wr.heap.size := by have := hb2.size; omega
          have hbA : Below wr.heap.size wr (wr.alloc (Obj.cells #[.int .i64 (x : Int), .int .i64 (y : Int)] 121)) := (Below.refl _ _).alloc (Nat.le_refl _) _
          have R0 := Lib.hid (HR2.out.below hbA)
          have C0 := Lib.hid (Blk.new wr 121 #[.int .i64 (x : Int), .int .i64 (y : Int)])
          have D0 := hb2.alloc hb2.size (Obj.cells #[.int .i64 (x : Int), .int .i64 (y : Int)] 121)
          have E0 : hi0 ≤ (wr.alloc (Obj.cells #[.int .i64 (x : Int), .int .i64 (y : Int)] 121)).heap.size := by simp; omega
          have F0 := C0.out.lt
          clear he hA hB' hC
          go_wp2_with fail
          obtain ⟨W0, hW0⟩ : ∃ X : World, X = wr.alloc (Obj.cells #[.int .i64 (x : Int), .int .i64 (y : Int)] 121) := ⟨_, rfl⟩
          rw [← hW0] at R0 C0 D0 E0 F0 ⊢
          clear hW0 hbA hc0 hc1
          obtain ⟨g0, a0, b0, r0, v0, f0, HW0⟩ := mat_write R0.out hxM hxM
          obtain ⟨p0, q0⟩ := two_cellsL C0.out
          have z0 : g0 < hi0 := b0
          have R1 := Lib.hid (HW0 (lapK es m x x + 1))
          have C1 := Lib.hid ((C0.out.far (p := ⟨g0, x, none⟩) (by simp only; omega) (.int .i64 (lapK es m x x + 1))).drew)
          have D1 : Below w.heap.size w (W0.setCell ⟨g0, x, none⟩ (.int .i64 (lapK es m x x + 1))).drew := (D0.setCell (p := ⟨g0, x, none⟩) (by simp only; have := hbb.size; omega) _).drew
          have E1 : hi0 ≤ (W0.setCell ⟨g0, x, none⟩ (.int .i64 (lapK es m x x + 1))).drew.heap.size := by simp only [World.drew, World.setCell, Array.size_modify]; exact E0
          have F1 : wr.heap.size < (W0.setCell ⟨g0, x, none⟩ (.int .i64 (lapK es m x x + 1))).drew.heap.size := C1.out.lt
          clear HW0
          go_wp2_with fail
          go_region
          obtain ⟨W1, hW1⟩ : ∃ X : World, X = (W0.setCell ⟨g0, x, none⟩ (.int .i64 (lapK es m x x + 1))).drew := ⟨_, rfl⟩
          rw [← hW1] at R1 C1 D1 E1 F1 ⊢
          clear hW1 r0 v0 f0 p0 q0 D0 E0 F0
          obtain ⟨g1, a1, b1, r1, v1, f1, HW1⟩ := mat_write R1.out hyM hyM
          have e1 : (bump (lapK es m) x x (lapK es m x x + 1)) y y = lapK es m y y := by simp only [bump]; repeat (rw [if_neg (by omega)])
          rw [e1] at v1
          clear e1
          obtain ⟨p1, q1⟩ := two_cellsL C1.out
          have z1 : g1 < hi0 := b1
          have R2 := Lib.hid (HW1 (lapK es m y y + 1))
          have C2 := Lib.hid ((C1.out.far (p := ⟨g1, y, none⟩) (by simp only; omega) (.int .i64 (lapK es m y y + 1))).drew)
          have D2 : Below w.heap.size w (W1.setCell ⟨g1, y, none⟩ (.int .i64 (lapK es m y y + 1))).drew := (D1.setCell (p := ⟨g1, y, none⟩) (by simp only; have := hbb.size; omega) _).drew
          have E2 : hi0 ≤ (W1.setCell ⟨g1, y, none⟩ (.int .i64 (lapK es m y y + 1))).drew.heap.size := by simp only [World.drew, World.setCell, Array.size_modify]; exact E1
          have F2 : wr.heap.size < (W1.setCell ⟨g1, y, none⟩ (.int .i64 (lapK es m y y + 1))).drew.heap.size := C2.out.lt
          clear HW1
          go_wp2_with fail
          go_region
          obtain ⟨W2, hW2⟩ : ∃ X : World, X = (W1.setCell ⟨g1, y, none⟩ (.int .i64 (lapK es m y y + 1))).drew := ⟨_, rfl⟩
          rw [← hW2] at R2 C2 D2 E2 F2 ⊢
          clear hW2 r1 v1 f1 p1 q1 D1 E1 F1
          obtain ⟨g2, a2, b2, r2, v2, f2, HW2⟩ := mat_write R2.out hxM hyM
          have e2 : (bump (bump (lapK es m) x x (lapK es m x x + 1)) y y (lapK es m y y + 1)) x y = lapK es m x y := by simp only [bump]; repeat (rw [if_neg (by omega)])
          rw [e2] at v2
          clear e2
          obtain ⟨p2, q2⟩ := two_cellsL C2.out
          have z2 : g2 < hi0 := b2
          have R3 := Lib.hid (HW2 (lapK es m x y - 1))
          have C3 := Lib.hid ((C2.out.far (p := ⟨g2, y, none⟩) (by simp only; omega) (.int .i64 (lapK es m x y - 1))).drew)
          have D3 : Below w.heap.size w (W2.setCell ⟨g2, y, none⟩ (.int .i64 (lapK es m x y - 1))).drew := (D2.setCell (p := ⟨g2, y, none⟩) (by simp only; have := hbb.size; omega) _).drew
          have E3 : hi0 ≤ (W2.setCell ⟨g2, y, none⟩ (.int .i64 (lapK es m x y - 1))).drew.heap.size := by simp only [World.drew, World.setCell, Array.size_modify]; exact E2
          have F3 : wr.heap.size < (W2.setCell ⟨g2, y, none⟩ (.int .i64 (lapK es m x y - 1))).drew.heap.size := C3.out.lt
          clear HW2
          go_wp2_with fail
          go_region
          obtain ⟨W3, hW3⟩ : ∃ X : World, X = (W2.setCell ⟨g2, y, none⟩ (.int .i64 (lapK es m x y - 1))).drew := ⟨_, rfl⟩
          rw [← hW3] at R3 C3 D3 E3 F3 ⊢
          clear hW3 r2 v2 f2 p2 q2 D2 E2 F2
          obtain ⟨g3, a3, b3, r3, v3, f3, HW3⟩ := mat_write R3.out hyM hxM
          have e3 : (bump (bump (bump (lapK es m) x x (lapK es m x x + 1)) y y (lapK es m y y + 1)) x y (lapK es m x y - 1)) y x = lapK es m y x := by simp only [bump]; repeat (rw [if_neg (by omega)])
          rw [e3] at v3
          clear e3
          obtain ⟨p3, q3⟩ := two_cellsL C3.out
          have z3 : g3 < hi0 := b3
          have R4 := Lib.hid (HW3 (lapK es m y x - 1))
          have C4 := Lib.hid ((C3.out.far (p := ⟨g3, x, none⟩) (by simp only; omega) (.int .i64 (lapK es m y x - 1))).drew)
          have D4 : Below w.heap.size w (W3.setCell ⟨g3, x, none⟩ (.int .i64 (lapK es m y x - 1))).drew := (D3.setCell (p := ⟨g3, x, none⟩) (by simp only; have := hbb.size; omega) _).drew
          have E4 : hi0 ≤ (W3.setCell ⟨g3, x, none⟩ (.int .i64 (lapK es m y x - 1))).drew.heap.size := by simp only [World.drew, World.setCell, Array.size_modify]; exact E3
          have F4 : wr.heap.size < (W3.setCell ⟨g3, x, none⟩ (.int .i64 (lapK es m y x - 1))).drew.heap.size := C4.out.lt
          clear HW3
          go_wp2_with fail
          go_region
          obtain ⟨W4, hW4⟩ : ∃ X : World, X = (W3.setCell ⟨g3, x, none⟩ (.int .i64 (lapK es m y x - 1))).drew := ⟨_, rfl⟩
          rw [← hW4] at R4 C4 D4 E4 F4 ⊢
          clear hW4 r3 v3 f3 p3 q3 D3 E3 F3
          have hfin := R4.out
          rw [← HST.out] at hfin
          have HFN := Lib.hid hfin
          clear hfin
          go_wp2
          go_roundw
          case rel => exact ⟨m + 1, by omega, by go_num, HFN.out, E4, D4⟩
          case measure => simp [intOf]; omega
        · have HF : Hid (RowsTo wr w1.heap.size wr.heap.size (lapM M es) M) := Lib.hid (by
            have h := HR2.out
            rw [show m = es.length by omega, lapK_all] at h
            exact h.more hsz)
          go_wp2
          go_ret
          exact ⟨w1.heap.size, rfl, hbb.size, HF.out, hb2⟩
end Go.Proofs.Ytdpojcgeblbfeaa

/- LaplacianOf, the program's side whatever the graph; its size. -/
namespace Go.Proofs.Ytdpojcgeblbfeaa
open Go.RowKit

end Go.Proofs.Ytdpojcgeblbfeaa
