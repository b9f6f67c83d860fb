/- One text out of several: Scr FireSc SetV FSet AddD. -/
import Derived.Test.YtcfhkaefjhcglaaBI
import Derived.Test.YtcfhkaefjhcglaaBJ
import Derived.Test.YtcfhkaefjhcglaaBG
import Derived.Test.YtcfhkaefjhcglaaBA
import Derived.Test.YtcfhkaefjhcglaaBF
import Derived.Test.YtcfhkaefjhcglaaBL
/- ScriptOk: both sides. -/
namespace Go.Proofs.Ytcfhkaefjhcglaa
open Go.RowKit


set_option maxHeartbeats 1000000 in
theorem implScr (N : Int) (A D : Option Addr) (c cd : Nat) (es : List (Int × Int)) (d : List Int) (w : World) (hn : es.length ≤ 1048576) (hd : d.length ≤ 1048576) (hE : EdgeS w w.heap.size A es) (hS : IntS w w.heap.size D d) :
    Calls Try.prog 18 #[.agg #[.int .i64 N, .slice A es.length c], .slice D d.length cd] w fun e w' => e = .returned (.bool (divB 100000 N es d)) ∧ Below w.heap.size w w' := by
  have HE := Lib.hid hE
  have HS := Lib.hid hS
  clear hE hS
  have hb0 : Below w.heap.size w (w.alloc (Obj.cells #[.int .i64 N, .slice A es.length c] 25)) := (Below.refl _ _).alloc (Nat.le_refl _) _
  have HG := fun w h => Lib.hid (implGraphOk N A c es w hn h)
  cases hB : graphB N es with
  | false =>
    rw [hB] at HG
    rw [divB_g hB]
    clear hB
    go_enter Try.func18, Try.ntmps18
    go_wp2_with fail
    refine (HG _ (HE.out.up_ hb0)).out.mono ?_
    rintro e w1 ⟨rfl, hb1⟩
    have hbb : Below w.heap.size w w1 := hb0.trans (hb1.mono hb0.size)
    clear hb0 hb1
    go_wp2
    go_ret
    exact ⟨rfl, hbb⟩
  | true =>
    rw [hB] at HG
    by_cases hl : (d.length : Int) = N
    · rw [divB_a hB hl]
      have t0 : ((d.length : Int) == N) = true := by simp [hl]
      have HW := fun w B h => Lib.hid (areWithin_any D cd B d 100000 w hd (by omega) (by omega) h)
      clear hB hl
      go_enter Try.func18, Try.ntmps18
      go_wp2_with fail
      refine (HG _ (HE.out.up_ hb0)).out.mono ?_
      rintro e w1 ⟨rfl, hb1⟩
      have hbb : Below w.heap.size w w1 := hb0.trans (hb1.mono hb0.size)
      have hx1 := (Blk.new w 25 #[.int .i64 N, .slice A es.length c]).below hb1 (by simp)
      have c0 : w1.cell? ⟨w.heap.size, 0, none⟩ = some (.int .i64 N) := by rw [hx1.cell]; rfl
      have c1 : w1.cell? ⟨w.heap.size, 1, none⟩ = some (.slice A es.length c) := by rw [hx1.cell]; rfl
      have HS1 := Lib.hid (HS.out.up_ hbb)
      clear hb0 hb1 hx1
      go_wp2_with fail
      refine (HW _ _ HS1.out).out.mono ?_
      rintro e w' ⟨rfl, rfl⟩
      go_wp2
      go_ret
      exact ⟨rfl, hbb⟩
    · rw [divB_l hl]
      have t0 : ((d.length : Int) == N) = false := by simp [hl]
      clear hB hl
      go_enter Try.func18, Try.ntmps18
      go_wp2_with fail
      refine (HG _ (HE.out.up_ hb0)).out.mono ?_
      rintro e w1 ⟨rfl, hb1⟩
      have hbb : Below w.heap.size w w1 := hb0.trans (hb1.mono hb0.size)
      have hx1 := (Blk.new w 25 #[.int .i64 N, .slice A es.length c]).below hb1 (by simp)
      have c0 : w1.cell? ⟨w.heap.size, 0, none⟩ = some (.int .i64 N) := by rw [hx1.cell]; rfl
      have c1 : w1.cell? ⟨w.heap.size, 1, none⟩ = some (.slice A es.length c) := by rw [hx1.cell]; rfl
      clear hb0 hb1 hx1
      go_wp2
      go_ret
      exact ⟨rfl, hbb⟩
end Go.Proofs.Ytcfhkaefjhcglaa

/- FireScript: both sides. -/
namespace Go.Proofs.Ytcfhkaefjhcglaa
open Go.RowKit

noncomputable def fireOk (N : Int) (es : List (Int × Int)) (d s : List Int) : Bool := divB 60 N es d && divB 100000 N es s
noncomputable def fireB (N : Int) (es : List (Int × Int)) (d s : List Int) : List Int := if fireOk N es d s = true then firedB N.toNat es d s else []
theorem fireB_f {N : Int} {es : List (Int × Int)} {d s : List Int} (h : fireOk N es d s = false) : fireB N es d s = [] := by rw [fireB, if_neg (by rw [h]; decide)]
theorem fireB_t {N : Int} {es : List (Int × Int)} {d s : List Int} (h : fireOk N es d s = true) : fireB N es d s = firedB N.toNat es d s := by rw [fireB, if_pos h]
theorem div_lims {m N : Int} {es : List (Int × Int)} {d : List Int} (h : divB m N es d = true) : 1 ≤ N ∧ N ≤ 6 ∧ es.length ≤ 12 ∧ (d.length : Int) = N ∧ ∀ e ∈ es, 0 ≤ e.1 ∧ e.1 < e.2 ∧ e.2 < N := by
  obtain ⟨h1, h2, _⟩ := divB_all h
  obtain ⟨h3, h4, h5⟩ := edgesB_lims (graphB_all h1).1
  exact ⟨h3, h4, h5, h2, fun e he => all_edge (graphB_all h1).1 he⟩
theorem div_wide {m N : Int} {es : List (Int × Int)} {d : List Int} (h : divB m N es d = true) (hm : m ≤ 1000000) : ∀ x ∈ d, -9223372036854775808 ≤ x ∧ x ≤ 9223372036854775807 := fun x hx => by
  have := (divB_all h).2.2 x hx
  omega
theorem fireB_len {N : Int} {es : List (Int × Int)} {d s : List Int} : (fireB N es d s).length ≤ 1048576 := by
  cases h : fireOk N es d s with
  | false => rw [fireB_f h]; simp
  | true =>
    rw [fireB_t h, firedB_len]
    simp only [fireOk, Bool.and_eq_true] at h
    have := div_lims h.1
    omega


set_option maxHeartbeats 2000000 in
theorem implFire (N : Int) (A D S : Option Addr) (c cd cs : Nat) (es : List (Int × Int)) (d s : List Int) (w : World) (hn : es.length ≤ 1048576) (hd : d.length ≤ 1048576) (hs : s.length ≤ 1048576) (hE : EdgeS w w.heap.size A es) (hD : IntS w w.heap.size D d) (hS : IntS w w.heap.size S s) :
    Calls Try.prog 17 #[.agg #[.int .i64 N, .slice A es.length c], .slice D d.length cd, .slice S s.length cs] w (GivesIntsOk w (fireB N es d s) (fireOk N es d s)) := by
  have HE := Lib.hid hE
  have HSD := Lib.hid hD
  have HSS := Lib.hid hS
  clear hE hD hS
  have hb0 : Below w.heap.size w (w.alloc (Obj.cells #[.int .i64 N, .slice A es.length c] 25)) := (Below.refl _ _).alloc (Nat.le_refl _) _
  have HD := fun w h1 h2 => Lib.hid (implDiv N A D c cd es d w hn hd h1 h2)
  have HQ := fun w h1 h2 => Lib.hid (implScr N A S c cs es s w hn hs h1 h2)
  cases h1 : divB 60 N es d with
  | false =>
    rw [h1] at HD
    have h0 : fireOk N es d s = false := by simp [fireOk, h1]
    rw [fireB_f h0, h0]
    clear h0 h1 HQ
    go_enter Try.func17, Try.ntmps17
    go_wp2_with fail
    refine (HD _ (HE.out.up_ hb0) (HSD.out.up_ hb0)).out.mono ?_
    rintro e w1 ⟨rfl, hb1⟩
    have hbb : Below w.heap.size w w1 := hb0.trans (hb1.mono hb0.size)
    have hx1 := (Blk.new w 25 #[.int .i64 N, .slice A es.length c]).below hb1 (by simp)
    have c0 : w1.cell? ⟨w.heap.size, 0, none⟩ = some (.int .i64 N) := by rw [hx1.cell]; rfl
    have c1 : w1.cell? ⟨w.heap.size, 1, none⟩ = some (.slice A es.length c) := by rw [hx1.cell]; rfl
    have HX1 := Lib.hid hx1
    clear hb0 hb1 hx1
    go_wp2
    go_ret2
    exact ⟨none, 0, rfl, OwnI.nil _ _ _, hbb⟩
  | true =>
    rw [h1] at HD
    cases h2 : divB 100000 N es s with
    | false =>
      rw [h2] at HQ
      have h0 : fireOk N es d s = false := by simp [fireOk, h2]
      rw [fireB_f h0, h0]
      clear h0 h1 h2
      go_enter Try.func17, Try.ntmps17
      go_wp2_with fail
      refine (HD _ (HE.out.up_ hb0) (HSD.out.up_ hb0)).out.mono ?_
      rintro e w1 ⟨rfl, hb1⟩
      have hbb : Below w.heap.size w w1 := hb0.trans (hb1.mono hb0.size)
      have hx1 := (Blk.new w 25 #[.int .i64 N, .slice A es.length c]).below hb1 (by simp)
      have c0 : w1.cell? ⟨w.heap.size, 0, none⟩ = some (.int .i64 N) := by rw [hx1.cell]; rfl
      have c1 : w1.cell? ⟨w.heap.size, 1, none⟩ = some (.slice A es.length c) := by rw [hx1.cell]; rfl
      have HX1 := Lib.hid hx1
      clear hb0 hb1 hx1
      go_wp2_with fail
      refine (HQ _ (HE.out.up_ hbb) (HSS.out.up_ hbb)).out.mono ?_
      rintro e w2 ⟨rfl, hb2⟩
      have hbc : Below w.heap.size w w2 := hbb.trans (hb2.mono hbb.size)
      have hx2 := HX1.out.below hb2 HX1.out.lt
      clear c0 c1
      have c0 : w2.cell? ⟨w.heap.size, 0, none⟩ = some (.int .i64 N) := by rw [hx2.cell]; rfl
      have c1 : w2.cell? ⟨w.heap.size, 1, none⟩ = some (.slice A es.length c) := by rw [hx2.cell]; rfl
      clear hx2 hb2 HX1
      go_wp2
      go_ret2
      exact ⟨none, 0, rfl, OwnI.nil _ _ _, hbc⟩
    | true =>
      rw [h2] at HQ
      have h0 : fireOk N es d s = true := by simp [fireOk, h1, h2]
      rw [fireB_t h0, h0]
      obtain ⟨hN1, hN6, hn12, hdl, hes⟩ := div_lims h1
      obtain ⟨_, _, _, hsl, _⟩ := div_lims h2
      obtain ⟨M, rfl⟩ : ∃ M : Nat, N = (M : Int) := ⟨N.toNat, by omega⟩
      rw [Int.toNat_natCast]
      have HDW := Lib.hid (div_wide h1 (by omega))
      have HES := Lib.hid hes
      have HDL := Lib.hid (show d.length = M by omega)
      have HSL := Lib.hid (show s.length = M by omega)
      have HST := Lib.hid (chips_start HDL.out HDW.out)
      have hM0 : 0 < M := by omega
      have hM6 : M ≤ 6 := by omega
      have hd0 : 0 < d.length := by omega
      clear h0 h1 h2 hdl hsl hes
      go_enter Try.func17, Try.ntmps17
      go_wp2_with fail
      refine (HD _ (HE.out.up_ hb0) (HSD.out.up_ hb0)).out.mono ?_
      rintro e w1 ⟨rfl, hb1⟩
      have hbb : Below w.heap.size w w1 := hb0.trans (hb1.mono hb0.size)
      have hx1 := (Blk.new w 25 #[.int .i64 (M : Int), .slice A es.length c]).below hb1 (by simp)
      have c0 : w1.cell? ⟨w.heap.size, 0, none⟩ = some (.int .i64 (M : Int)) := by rw [hx1.cell]; rfl
      have c1 : w1.cell? ⟨w.heap.size, 1, none⟩ = some (.slice A es.length c) := by rw [hx1.cell]; rfl
      have HX1 := Lib.hid hx1
      clear hb0 hb1 hx1
      go_wp2_with fail
      refine (HQ _ (HE.out.up_ hbb) (HSS.out.up_ hbb)).out.mono ?_
      rintro e w2 ⟨rfl, hb2⟩
      have hbc : Below w.heap.size w w2 := hbb.trans (hb2.mono hbb.size)
      have hx2 := HX1.out.below hb2 HX1.out.lt
      clear c0 c1
      have c0 : w2.cell? ⟨w.heap.size, 0, none⟩ = some (.int .i64 (M : Int)) := by rw [hx2.cell]; rfl
      have c1 : w2.cell? ⟨w.heap.size, 1, none⟩ = some (.slice A es.length c) := by rw [hx2.cell]; rfl
      clear hx2 hb2 HX1
      have hs2 := hbc.size
      go_wp2_with fail
      refine (boardOf_any _ _ _ _ _ _ d _ hd0 hd (HSD.out.up_ hbc)).mono ?_
      rintro e w3 ⟨p, g, cg, rfl, hbrd, hch, hg, hpg, hb3⟩
      have hbd : Below w.heap.size w w3 := hbc.trans (hb3.mono hbc.size)
      have hs3 := hb3.size
      have hp3 := hbrd.lt
      have hch0 := hch
      rw [← HST.out] at hch0
      rw [HDL.out] at hbrd
      have HBR := Lib.hid hbrd
      have HCH := Lib.hid hch0
      have HB3 := Lib.hid hbd
      have e3 := Lib.hid (HE.out.up_ hbc)
      clear hbrd hch hch0 hb3 c0 c1
      go_wp2_with fail
      go_loopw [26] (fun i wr => ∃ k : Nat, k ≤ s.length ∧ i = .int .i64 k ∧ Chips wr g (chipsOf M (scriptF (fun u => d.getD u 0) s es k)) ∧ Moves g (g + 1) w3 wr) (fun i _ => s.length - (intOf i).toNat)
      case atStart => exact ⟨0, Nat.zero_le _, rfl, HCH.out, Moves.refl _ _ _⟩
      case round =>
        obtain ⟨k, hk, rfl, hcr, hmv⟩ := hrel
        have HK := Lib.hid hcr
        have HM := Lib.hid hmv
        have HBW := Lib.hid (HBR.out.moves hmv (.inr (by omega)))
        have hbel : Below w3.heap.size w3 w3 := Below.refl _ _
        have hbw : Below w.heap.size w wr := belowMoves HB3.out hmv (by omega) (by omega)
        have hsr := hmv.size
        clear hcr hmv hbel
        by_cases hlt : k < s.length
        · obtain ⟨b1, o1, x, rfl, hb1, he, hc0⟩ := (HSS.out.below hbw).at_ hlt
          have hi0 : (0 : Int) ≤ (k : Int) := Int.natCast_nonneg _
          have hi1 : (k : Int) < (s.length : Int) := by omega
          have HF : Hid (chipsOf M (fireF (scriptF (fun u => d.getD u 0) s es k) (k : Int) x es) = chipsOf M (scriptF (fun u => d.getD u 0) s es (k + 1))) := Lib.hid (chipsOf_eq fun u _ => by rw [scriptF]; simp [List.getD, he])
          clear he
          go_wp2_with fail
          refine (fire_any p g M cg _ w.heap.size A es _ (k : Int) x _ (by omega) (by omega) (by omega) hn12 HES.out HBW.out HK.out (HE.out.below hbw)).mono ?_
          rintro e w4 ⟨rfl, hc4, hm4⟩
          rw [HF.out] at hc4
          have HC4 := Lib.hid hc4
          have HM4 := Lib.hid (HM.out.trans hm4)
          clear hc4 hm4
          go_wp2
          exact ⟨⟨k + 1, by omega, by go_num, HC4.out, HM4.out⟩, by simp [intOf]; omega⟩
        · have hK2 := HK.out
          rw [show k = M by have := HSL.out; omega, scriptF_all d s HES.out] at hK2
          have HK2 := Lib.hid (hK2.own (base := w.heap.size) (by omega))
          have HFL := Lib.hid (firedB_len M es d s)
          have b1 : wr.cell? ⟨p, 1, none⟩ = some (.slice (some ⟨g, 0, none⟩) M cg) := by rw [HBW.out.cell]; rfl
          clear hK2
          go_wp2
          go_ret2
          exact ⟨some ⟨g, 0, none⟩, cg, by rw [HFL.out]; rfl, HK2.out, hbw⟩
end Go.Proofs.Ytcfhkaefjhcglaa

/- Sets of vertices: the specification's l04Set and the program's isVertexSet. -/
namespace Go.Proofs.Ytcfhkaefjhcglaa
open Go.RowKit

def setOk (N : Int) (l : List Int) : Bool := decide ((∀ v ∈ l, 0 ≤ v ∧ v < N) ∧ l.Nodup)
theorem setOk_all {N : Int} {l : List Int} (h : setOk N l = true) : (∀ v ∈ l, 0 ≤ v ∧ v < N) ∧ l.Nodup := by simpa [setOk] using h
theorem setOk_snoc {N : Int} {l : List Int} {v : Int} (h : setOk N l = true) (hv : vB v N = true) (hm : ¬ v ∈ l) : setOk N (l ++ [v]) = true := by
  obtain ⟨h1, h2⟩ := setOk_all h
  have h3 := vB_iff hv
  unfold setOk
  rw [decide_eq_true_eq]
  refine ⟨fun x hx => ?_, ?_⟩
  · rw [List.mem_append, List.mem_singleton] at hx
    rcases hx with hx | rfl
    · exact h1 x hx
    · exact h3
  · rw [List.nodup_append]
    refine ⟨h2, by simp, fun a ha b hb => ?_⟩
    rw [List.mem_singleton] at hb
    subst hb
    rintro rfl
    exact hm ha
theorem setOk_miss {N : Int} {l : List Int} {k : Nat} {v : Int} (he : l[k]? = some v) (hv : vB v N = false) : setOk N l = false := by
  cases h : setOk N l with
  | false => rfl
  | true =>
    have := (setOk_all h).1 v (List.mem_of_getElem? he)
    rw [vB_t this] at hv
    cases hv
theorem setOk_dup {N : Int} {l : List Int} {k : Nat} {v : Int} (he : l[k]? = some v) (hm : v ∈ l.take k) : setOk N l = false := by
  cases h : setOk N l with
  | false => rfl
  | true =>
    have h2 := (setOk_all h).2
    have h3 : (l.take (k + 1)).Nodup := h2.sublist (List.take_sublist _ _)
    rw [List.take_add_one, he, List.nodup_append] at h3
    exact absurd rfl (h3.2.2 v hm v (by simp))
theorem take_snocV {l : List Int} {k : Nat} {x : Int} (h : l[k]? = some x) : l.take (k + 1) = l.take k ++ [x] := by rw [List.take_add_one, h]; rfl
def setsB (M : Nat) (l : List Int) : List Int := if setOk (M : Int) l = true then setL M l else []
theorem setsB_f {M : Nat} {l : List Int} (h : setOk (M : Int) l = false) : setsB M l = [] := by rw [setsB, if_neg (by rw [h]; decide)]
theorem setsB_t {M : Nat} {l : List Int} (h : setOk (M : Int) l = true) : setsB M l = setL M l := by rw [setsB, if_pos h]
theorem setL_cells (M u : Nat) (l : List Int) : (intCells (setL M l)).set u (.int .i64 1) = intCells (setL M (l ++ [(u : Int)])) := by rw [setL_snoc]; simp [intCells, List.map_set]


/-- the marks of the program's array: which vertices have been taken -/
def tkC (l : List Int) : List Value := (List.range 6).map fun (v : Nat) => Value.bool (decide ((v : Int) ∈ l))
theorem tkC_nil : tkC [] = [.bool false, .bool false, .bool false, .bool false, .bool false, .bool false] := by simp [tkC, List.range_succ]
theorem tkC_at {u : Nat} (l : List Int) (h : u < 6) : (tkC l)[u]? = some (.bool (decide ((u : Int) ∈ l))) := by simp [tkC, h]
theorem tkC_set {u : Nat} (l : List Int) : (tkC l).set u (.bool true) = tkC (l ++ [(u : Int)]) := by
  apply List.ext_getElem?
  intro i
  by_cases hi : i < 6
  · rw [tkC_at _ hi]
    by_cases e : i = u
    · subst e
      rw [List.getElem?_set_self (by simp [tkC]; exact hi)]
      simp
    · rw [List.getElem?_set_ne (Ne.symm e), tkC_at _ hi]
      have : ¬ ((i : Int) = (u : Int)) := by omega
      simp [this]
  · rw [List.getElem?_eq_none (by simp [tkC]; omega), List.getElem?_eq_none (by simp [tkC]; omega)]
set_option maxHeartbeats 1000000 in
theorem isVertexSet_any (M n c : Nat) (A S : Option Addr) (cs : Nat) (l : List Int) (w : World) (hM6 : M ≤ 6) (hn : l.length ≤ 1048576) (hS : IntS w w.heap.size S l) :
    Calls Try.prog 68 #[.agg #[.int .i64 (M : Int), .slice A n c], .slice S l.length cs] w fun e w' => e = .returned (.bool (setOk (M : Int) l)) ∧ Below w.heap.size w w' := by
  have HS := Lib.hid hS
  have HV := fun v w => Lib.hid (hasVertex_any (M : Int) (.slice A n c) v w ⟨_, _, _, rfl⟩)
  clear hS
  have hb0 : Below w.heap.size w (w.alloc (Obj.cells #[.int .i64 (M : Int), .slice A n c] 25)) := (Below.refl _ _).alloc (Nat.le_refl _) _
  go_enter Try.func68, Try.ntmps68
  go_wp2
  go_loopw [10] (fun i wr => ∃ k : Nat, k ≤ l.length ∧ i = .int .i64 k ∧ setOk (M : Int) (l.take k) = true ∧ Blk wr (w.heap.size + 1) 105 (tkC (l.take k)).toArray ∧ Blk wr w.heap.size 25 #[.int .i64 (M : Int), .slice A n c] ∧ Below w.heap.size w wr) (fun i _ => l.length - (intOf i).toNat)
  case atStart =>
    refine ⟨0, Nat.zero_le _, rfl, by simp [setOk], ?_, (Blk.new w _ _).alloc _, hb0.alloc (by simp) _⟩
    have h := Blk.new (w.alloc (Obj.cells #[.int .i64 (M : Int), .slice A n c] 25)) 105 (tkC []).toArray
    rw [World.size_alloc] at h
    rw [List.take_zero]
    rw [tkC_nil] at h ⊢
    exact h
  case round =>
    obtain ⟨k, hk, rfl, hok, hblk, hgr, hb⟩ := hrel
    have HB := Lib.hid hblk
    have HO := Lib.hid hok
    have HG := Lib.hid hgr
    have c0 : wr.cell? ⟨w.heap.size, 0, none⟩ = some (.int .i64 (M : Int)) := by rw [hgr.cell]; rfl
    have c1 : wr.cell? ⟨w.heap.size, 1, none⟩ = some (.slice A n c) := by rw [hgr.cell]; rfl
    have hbl := hblk.lt
    clear hblk hok hgr
    by_cases hlt : k < l.length
    · obtain ⟨b1, o1, v, rfl, hb1, he, hc0⟩ := (HS.out.below hb).at_ hlt
      have hi0 : (0 : Int) ≤ (k : Int) := Int.natCast_nonneg _
      have hi1 : (k : Int) < (l.length : Int) := by omega
      have HVV := fun w => (HV v w)
      clear HV
      cases hv : vB v (M : Int) with
      | false =>
        have H := Lib.hid (setOk_miss he hv)
        rw [hv] at HVV
        clear he hv
        go_wp2_with fail
        refine (HVV _).out.mono ?_
        rintro e w2 ⟨rfl, hb2⟩
        have hb3 := hb.trans (hb2.mono hb.size)
        clear hb2 c0 c1 hc0
        go_wp2
        go_ret
        exact ⟨ret_boolE H.out.symm, hb3⟩
      | true =>
        obtain ⟨h0, h1⟩ := vB_iff hv
        rw [hv] at HVV
        obtain ⟨u, rfl⟩ : ∃ u : Nat, v = (u : Int) := ⟨v.toNat, by omega⟩
        have hu6 : u < 6 := by omega
        have hu7 : (u : Int) < 6 := by omega
        have hat := tkC_at (l.take k) hu6
        by_cases hm : (u : Int) ∈ l.take k
        · have H := Lib.hid (setOk_dup (N := (M : Int)) he hm)
          rw [decide_eq_true hm] at hat
          clear he hv hm
          go_wp2_with fail
          refine (HVV _).out.mono ?_
          rintro e w2 ⟨rfl, hb2⟩
          have hb3 := hb.trans (hb2.mono hb.size)
          have hcl : w2.cell? ⟨w.heap.size + 1, u, none⟩ = some (.bool true) := by rw [(HB.out.below hb2 hbl).cell]; simp [hat]
          clear hb2 c0 c1 hc0 hat
          go_wp2
          go_ret
          exact ⟨ret_boolE H.out.symm, hb3⟩
        · have H := Lib.hid (setOk_snoc HO.out hv hm)
          rw [decide_eq_false hm] at hat
          have HT := Lib.hid (take_snocV he)
          have HO2 := Lib.hid (show setOk (M : Int) (l.take (k + 1)) = true by rw [HT.out]; exact H.out)
          clear he hv hm
          go_wp2_with fail
          refine (HVV _).out.mono ?_
          rintro e w2 ⟨rfl, hb2⟩
          have hb3 := hb.trans (hb2.mono hb.size)
          have hbk2 := HB.out.below hb2 hbl
          have hgr2 := HG.out.below hb2 HG.out.lt
          have hcl : w2.cell? ⟨w.heap.size + 1, u, none⟩ = some (.bool false) := by rw [hbk2.cell]; simp [hat]
          have hf0 := hbk2.frozen u
          have hb4 := hbk2.set_ u (.bool true)
          rw [List.setIfInBounds_toArray, tkC_set, ← HT.out] at hb4
          have HB4 := Lib.hid hb4
          have HG4 := Lib.hid (hgr2.far (p := ⟨w.heap.size + 1, u, none⟩) (by simp only; omega) (.bool true))
          clear hb2 c0 c1 hc0 hat hbk2 hgr2 hb4
          go_wp2
          exact ⟨⟨k + 1, by omega, by go_num, HO2.out, HB4.out, HG4.out, hb3.setCell (by simp only; omega) _⟩, by simp [intOf]; omega⟩
    · have HO2 := HO.out
      rw [List.take_of_length_le (by omega)] at HO2
      have HO3 := Lib.hid HO2
      clear HO2
      go_wp2
      go_ret
      exact ⟨ret_boolE HO3.out.symm, hb⟩
end Go.Proofs.Ytcfhkaefjhcglaa

/- FireSet: both sides. -/
namespace Go.Proofs.Ytcfhkaefjhcglaa
open Go.RowKit

noncomputable def fsetOk (N : Int) (es : List (Int × Int)) (d l : List Int) : Bool := divB 60 N es d && setOk N l
noncomputable def fsetB (N : Int) (es : List (Int × Int)) (d l : List Int) : List Int := if fsetOk N es d l = true then firedB N.toNat es d (setL N.toNat l) else []
theorem fsetB_f {N : Int} {es : List (Int × Int)} {d l : List Int} (h : fsetOk N es d l = false) : fsetB N es d l = [] := by rw [fsetB, if_neg (by rw [h]; decide)]
theorem fsetB_t {N : Int} {es : List (Int × Int)} {d l : List Int} (h : fsetOk N es d l = true) : fsetB N es d l = firedB N.toNat es d (setL N.toNat l) := by rw [fsetB, if_pos h]
theorem fsetB_len {N : Int} {es : List (Int × Int)} {d l : List Int} : (fsetB N es d l).length ≤ 1048576 := by
  cases h : fsetOk N es d l with
  | false => rw [fsetB_f h]; simp
  | true =>
    rw [fsetB_t h, firedB_len]
    simp only [fsetOk, Bool.and_eq_true] at h
    have := div_lims h.1
    omega


set_option maxHeartbeats 2000000 in
theorem implFSet (N : Int) (A D S : Option Addr) (c cd cs : Nat) (es : List (Int × Int)) (d s : List Int) (w : World) (hn : es.length ≤ 1048576) (hd : d.length ≤ 1048576) (hs : s.length ≤ 1048576) (hE : EdgeS w w.heap.size A es) (hD : IntS w w.heap.size D d) (hS : IntS w w.heap.size S s) :
    Calls Try.prog 20 #[.agg #[.int .i64 N, .slice A es.length c], .slice D d.length cd, .slice S s.length cs] w (GivesIntsOk w (fsetB N es d s) (fsetOk N es d s)) := by
  have HE := Lib.hid hE
  have HSD := Lib.hid hD
  have HSS := Lib.hid hS
  clear hE hD hS
  have hb0 : Below w.heap.size w (w.alloc (Obj.cells #[.int .i64 N, .slice A es.length c] 25)) := (Below.refl _ _).alloc (Nat.le_refl _) _
  have HD := fun w h1 h2 => Lib.hid (implDiv N A D c cd es d w hn hd h1 h2)
  cases h1 : divB 60 N es d with
  | false =>
    rw [h1] at HD
    have h0 : fsetOk N es d s = false := by simp [fsetOk, h1]
    rw [fsetB_f h0, h0]
    clear h0 h1
    go_enter Try.func20, Try.ntmps20
    go_wp2_with fail
    refine (HD _ (HE.out.up_ hb0) (HSD.out.up_ hb0)).out.mono ?_
    rintro e w1 ⟨rfl, hb1⟩
    have hbb : Below w.heap.size w w1 := hb0.trans (hb1.mono hb0.size)
    have hx1 := (Blk.new w 25 #[.int .i64 N, .slice A es.length c]).below hb1 (by simp)
    have c0 : w1.cell? ⟨w.heap.size, 0, none⟩ = some (.int .i64 N) := by rw [hx1.cell]; rfl
    have c1 : w1.cell? ⟨w.heap.size, 1, none⟩ = some (.slice A es.length c) := by rw [hx1.cell]; rfl
    have HX1 := Lib.hid hx1
    clear hb0 hb1 hx1
    go_wp2
    go_ret2
    exact ⟨none, 0, rfl, OwnI.nil _ _ _, hbb⟩
  | true =>
    rw [h1] at HD
    obtain ⟨hN1, hN6, hn12, hdl, hes⟩ := div_lims h1
    obtain ⟨M, rfl⟩ : ∃ M : Nat, N = (M : Int) := ⟨N.toNat, by omega⟩
    have hM0 : 0 < M := by omega
    have hM6 : M ≤ 6 := by omega
    cases h2 : setOk (M : Int) s with
    | false =>
      have HQ := fun w h => Lib.hid (isVertexSet_any M es.length c A S cs s w hM6 hs h)
      rw [h2] at HQ
      have h0 : fsetOk (M : Int) es d s = false := by simp [fsetOk, h2]
      rw [fsetB_f h0, h0]
      clear h0 h1 h2 hes hdl
      go_enter Try.func20, Try.ntmps20
      go_wp2_with fail
      refine (HD _ (HE.out.up_ hb0) (HSD.out.up_ hb0)).out.mono ?_
      rintro e w1 ⟨rfl, hb1⟩
      have hbb : Below w.heap.size w w1 := hb0.trans (hb1.mono hb0.size)
      have hx1 := (Blk.new w 25 #[.int .i64 (M : Int), .slice A es.length c]).below hb1 (by simp)
      have c0 : w1.cell? ⟨w.heap.size, 0, none⟩ = some (.int .i64 (M : Int)) := by rw [hx1.cell]; rfl
      have c1 : w1.cell? ⟨w.heap.size, 1, none⟩ = some (.slice A es.length c) := by rw [hx1.cell]; rfl
      have HX1 := Lib.hid hx1
      clear hb0 hb1 hx1
      go_wp2_with fail
      refine (HQ _ (HSS.out.up_ hbb)).out.mono ?_
      rintro e w2 ⟨rfl, hb2⟩
      have hbc : Below w.heap.size w w2 := hbb.trans (hb2.mono hbb.size)
      have hx2 := HX1.out.below hb2 HX1.out.lt
      clear c0 c1
      have c0 : w2.cell? ⟨w.heap.size, 0, none⟩ = some (.int .i64 (M : Int)) := by rw [hx2.cell]; rfl
      have c1 : w2.cell? ⟨w.heap.size, 1, none⟩ = some (.slice A es.length c) := by rw [hx2.cell]; rfl
      clear hx2 hb2 HX1
      go_wp2
      go_ret2
      exact ⟨none, 0, rfl, OwnI.nil _ _ _, hbc⟩
    | true =>
      have HQ := fun w h => Lib.hid (isVertexSet_any M es.length c A S cs s w hM6 hs h)
      rw [h2] at HQ
      have h0 : fsetOk (M : Int) es d s = true := by simp [fsetOk, h1, h2]
      rw [fsetB_t h0, h0]
      rw [Int.toNat_natCast]
      have HDW := Lib.hid (div_wide h1 (by omega))
      have HES := Lib.hid hes
      have HDL := Lib.hid (show d.length = M by omega)
      have HST := Lib.hid (chips_start HDL.out HDW.out)
      have HSO := Lib.hid h2
      have hd0 : 0 < d.length := by omega
      clear h0 h1 h2 hdl hes
      go_enter Try.func20, Try.ntmps20
      go_wp2_with fail
      refine (HD _ (HE.out.up_ hb0) (HSD.out.up_ hb0)).out.mono ?_
      rintro e w1 ⟨rfl, hb1⟩
      have hbb : Below w.heap.size w w1 := hb0.trans (hb1.mono hb0.size)
      have hx1 := (Blk.new w 25 #[.int .i64 (M : Int), .slice A es.length c]).below hb1 (by simp)
      have c0 : w1.cell? ⟨w.heap.size, 0, none⟩ = some (.int .i64 (M : Int)) := by rw [hx1.cell]; rfl
      have c1 : w1.cell? ⟨w.heap.size, 1, none⟩ = some (.slice A es.length c) := by rw [hx1.cell]; rfl
      have HX1 := Lib.hid hx1
      clear hb0 hb1 hx1
      go_wp2_with fail
      refine (HQ _ (HSS.out.up_ hbb)).out.mono ?_
      rintro e w2 ⟨rfl, hb2⟩
      have hbc : Below w.heap.size w w2 := hbb.trans (hb2.mono hbb.size)
      have hx2 := HX1.out.below hb2 HX1.out.lt
      clear c0 c1
      have c0 : w2.cell? ⟨w.heap.size, 0, none⟩ = some (.int .i64 (M : Int)) := by rw [hx2.cell]; rfl
      have c1 : w2.cell? ⟨w.heap.size, 1, none⟩ = some (.slice A es.length c) := by rw [hx2.cell]; rfl
      clear hx2 hb2 HX1
      have hs2 := hbc.size
      go_wp2_with fail
      refine (boardOf_any _ _ _ _ _ _ d _ hd0 hd (HSD.out.up_ hbc)).mono ?_
      rintro e w3 ⟨p, g, cg, rfl, hbrd, hch, hg, hpg, hb3⟩
      have hbd : Below w.heap.size w w3 := hbc.trans (hb3.mono hbc.size)
      have hs3 := hb3.size
      have hp3 := hbrd.lt
      have hch0 := hch
      rw [← HST.out] at hch0
      rw [HDL.out] at hbrd
      have HBR := Lib.hid hbrd
      have HCH := Lib.hid hch0
      have HB3 := Lib.hid hbd
      clear hbrd hch hch0 hb3 c0 c1
      go_wp2_with fail
      go_loopw [26] (fun i wr => ∃ k : Nat, k ≤ s.length ∧ i = .int .i64 k ∧ Chips wr g (chipsOf M (setF (fun u => d.getD u 0) M es (s.take k))) ∧ Moves g (g + 1) w3 wr) (fun i _ => s.length - (intOf i).toNat)
      case atStart => exact ⟨0, Nat.zero_le _, rfl, by rw [List.take_zero, setF_nil]; exact HCH.out, Moves.refl _ _ _⟩
      case round =>
        obtain ⟨k, hk, rfl, hcr, hmv⟩ := hrel
        have HK := Lib.hid hcr
        have HM := Lib.hid hmv
        have HBW := Lib.hid (HBR.out.moves hmv (.inr (by omega)))
        have hbw : Below w.heap.size w wr := belowMoves HB3.out hmv (by omega) (by omega)
        have hsr := hmv.size
        clear hcr hmv
        by_cases hlt : k < s.length
        · obtain ⟨b1, o1, x, rfl, hb1, he, hc0⟩ := (HSS.out.below hbw).at_ hlt
          have hi0 : (0 : Int) ≤ (k : Int) := Int.natCast_nonneg _
          have hi1 : (k : Int) < (s.length : Int) := by omega
          obtain ⟨hx0, hx1⟩ := (setOk_all HSO.out).1 x (List.mem_of_getElem? he)
          obtain ⟨u, rfl⟩ : ∃ u : Nat, x = (u : Int) := ⟨x.toNat, by omega⟩
          have hnm : ¬ (u : Int) ∈ s.take k := fun hm => by
            have := setOk_dup (N := (M : Int)) he hm
            rw [HSO.out] at this
            cases this
          have HF : Hid (chipsOf M (fireF (setF (fun u => d.getD u 0) M es (s.take k)) (u : Int) 1 es) = chipsOf M (setF (fun u => d.getD u 0) M es (s.take (k + 1)))) := Lib.hid (by rw [take_snocV he, setF_snoc _ _ _ _ _ (by omega) hnm])
          clear he hnm
          go_wp2_with fail
          refine (fire_any p g M cg _ w.heap.size A es _ (u : Int) 1 _ (by omega) (by omega) (by omega) hn12 HES.out HBW.out HK.out (HE.out.below hbw)).mono ?_
          rintro e w4 ⟨rfl, hc4, hm4⟩
          rw [HF.out] at hc4
          have HC4 := Lib.hid hc4
          have HM4 := Lib.hid (HM.out.trans hm4)
          clear hc4 hm4
          go_wp2
          exact ⟨⟨k + 1, by omega, by go_num, HC4.out, HM4.out⟩, by simp [intOf]; omega⟩
        · have hK2 := HK.out
          rw [List.take_of_length_le (by omega), setF_all d s HES.out] at hK2
          have HK2 := Lib.hid (hK2.own (base := w.heap.size) (by omega))
          have HFL := Lib.hid (firedB_len M es d (setL M s))
          have b1 : wr.cell? ⟨p, 1, none⟩ = some (.slice (some ⟨g, 0, none⟩) M cg) := by rw [HBW.out.cell]; rfl
          clear hK2
          go_wp2
          go_ret2
          exact ⟨some ⟨g, 0, none⟩, cg, by rw [HFL.out]; rfl, HK2.out, hbw⟩
end Go.Proofs.Ytcfhkaefjhcglaa

/- AddDivisors: the specification's appended sums and the program's filled slice are one plain list. -/
namespace Go.Proofs.Ytcfhkaefjhcglaa
open Go.RowKit

def sumsB (xs ys : List Int) : List Int := (List.range xs.length).map fun i => wrap64 (xs.getD i 0 + ys.getD i 0)
def addB (xs ys : List Int) : List Int := if xs.length = ys.length then sumsB xs ys else []
def sameLen (xs ys : List Int) : Bool := decide (xs.length = ys.length)
theorem sumsB_length (xs ys : List Int) : (sumsB xs ys).length = xs.length := by simp [sumsB]
theorem addB_len {xs ys : List Int} (h : xs.length ≤ 1048576) : (addB xs ys).length ≤ 1048576 := by
  unfold addB
  split
  · rw [sumsB_length]; exact h
  · simp
theorem sumsB_at {xs ys : List Int} {k : Nat} {x y : Int} (h : xs[k]? = some x) (h2 : ys[k]? = some y) : (sumsB xs ys)[k]? = some (wrap64 (x + y)) := by
  have hk : k < xs.length := (List.getElem?_eq_some_iff.1 h).1
  simp [sumsB, hk, List.getD, h2]
  rw [List.getElem?_eq_getElem hk] at h
  injection h with h
  rw [h]


set_option maxHeartbeats 1000000 in
theorem implAddD (A C : Option Addr) (ca cc : Nat) (xs ys : List Int) (w : World) (hn : xs.length ≤ 1048576) (hm : ys.length ≤ 1048576) (h1 : IntS w w.heap.size A xs) (h2 : IntS w w.heap.size C ys) :
    Calls Try.prog 23 #[.slice A xs.length ca, .slice C ys.length cc] w (GivesIntsOk w (addB xs ys) (sameLen xs ys)) := by
  have HS := Lib.hid h1
  have HT := Lib.hid h2
  clear h1 h2
  by_cases hl : xs.length = ys.length
  · rw [addB, if_pos hl, sameLen, decide_eq_true hl]
    have t0 : ((xs.length : Int) != (ys.length : Int)) = false := by simp [hl]
    have hl1 : xs.length ≤ ys.length := by omega
    have hmk := make_ints xs.length hn
    have HL := Lib.hid (sumsB_length xs ys)
    clear hl
    go_enter Try.func23, Try.ntmps23
    go_wp2
    go_loopw [18] (fun i wr => ∃ k : Nat, k ≤ xs.length ∧ i = .int .i64 k ∧ Blk wr w.heap.size 3 (intCells (partI (sumsB xs ys) k)).toArray ∧ Below w.heap.size w wr) (fun i _ => xs.length - (intOf i).toNat)
    case atStart =>
      refine ⟨0, Nat.zero_le _, rfl, ?_, (Below.refl _ _).alloc (Nat.le_refl _) _⟩
      rw [partI_len0, HL.out]
      exact Blk.new w _ _
    case round =>
      obtain ⟨k, hk, rfl, hblk, hb⟩ := hrel
      have HB := Lib.hid hblk
      clear hblk hmk
      by_cases hlt : k < xs.length
      · obtain ⟨b1, o1, x, rfl, hb1, he, hc0⟩ := (HS.out.below hb).at_ hlt
        obtain ⟨b2, o2, y, rfl, hb2, hf, hd0⟩ := (HT.out.below hb).at_ (k := k) (by omega)
        have hi0 : (0 : Int) ≤ (k : Int) := Int.natCast_nonneg _
        have hi1 : (k : Int) < (xs.length : Int) := by omega
        have hi2 : (k : Int) < (ys.length : Int) := by omega
        have HX := Lib.hid (sumsB_at he hf)
        clear he hf
        have hf0 := HB.out.frozen k
        have hcl0 : wr.cell? ⟨w.heap.size, k, none⟩ = some (.int .i64 0) := by rw [HB.out.cell]; simp [intCells, partI_at (sumsB xs ys) k (by rw [HL.out]; exact hlt)]
        go_wp2
        go_region
        go_wp2
        exact ⟨⟨k + 1, by omega, by go_num, (blk_partI HB.out HX.out).drew, (hb.setCell (Nat.le_refl _) _).drew⟩, by simp [intOf]; omega⟩
      · have HB2 := HB.out
        rw [show k = (sumsB xs ys).length by rw [HL.out]; omega, partI_all] at HB2
        have HB3 := Lib.hid HB2
        clear HB2
        go_wp2
        go_ret2
        exact ⟨some ⟨w.heap.size, 0, none⟩, xs.length, by rw [HL.out]; rfl, OwnI.of_blk HB3.out (Nat.le_refl _), hb⟩
  · rw [addB, if_neg hl, sameLen, decide_eq_false hl]
    have t0 : ((xs.length : Int) != (ys.length : Int)) = true := by simp; omega
    clear hl
    go_enter Try.func23, Try.ntmps23
    go_wp2
    go_ret2
    exact ⟨none, 0, rfl, OwnI.nil _ _ _, Below.refl _ _⟩
end Go.Proofs.Ytcfhkaefjhcglaa
