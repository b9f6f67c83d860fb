/- The program's ReducedLaplacian. -/
import Derived.Test.YtbmihbbpdmpmpaaRedS
import Derived.Test.YtbmihbbpdmpmpaaBE
import Derived.Test.YtbmihbbpdmpmpaaShDel
namespace Go.Proofs.Ytbmihbbpdmpmpaa
open Go.RowKit Go.Sort Go.Shelf

/-- the number of the i-th row that is left without row q -/
theorem put_moves {α : Type} [Inhabited α] {enc : α → Value} (w : World) (n g : Nat) (d : Array α) : Moves g (g + 1) w (putRow enc (Sort.ahead w n) g 0 d) :=
  ⟨rfl, rfl, rfl, by rw [size_putRow]; exact Nat.le_refl _, fun i hi ho => by
    show (w.heap.modify g _)[i]? = w.heap[i]?
    rw [Array.getElem?_modify, if_neg (by omega)]⟩
theorem put_size {α : Type} [Inhabited α] {enc : α → Value} (w : World) (n g : Nat) (d : Array α) : (putRow enc (Sort.ahead w n) g 0 d).heap.size = w.heap.size := by rw [size_putRow]; rfl
/-- the library's Delete of one int out of a whole block -/
theorem delI_any (G q : Nat) (r : List Int) (w : World) (hq : q < r.length) (hl : r.length ≤ 6) (hB : Blk w G 3 (intCells r).toArray) :
    Calls Try.prog 56 #[.slice (some ⟨G, 0, none⟩) r.length r.length, .int .i64 (q : Int), .int .i64 ((q : Int) + 1)] w fun e w' =>
      e = .returned (.slice (some ⟨G, 0, none⟩) (r.length - 1) r.length) ∧ Moves G (G + 1) w w' ∧ w'.heap.size = w.heap.size ∧ ∀ (j : Nat) (z : Int), (r.eraseIdx q)[j]? = some z → w'.cell? ⟨G, j, none⟩ = some (.int .i64 z) ∧ w'.frozen? ⟨G, j, none⟩ = false := by
  have hH : Holds (Value.int .i64) w G 0 r.toArray := fun j hj => by
    rw [Nat.zero_add, hB.cell]
    have hj2 : j < r.length := by simpa using hj
    exact ⟨by simp [intCells, hj2, getElem!_pos], hB.frozen _⟩
  have h := Try.slices_Delete_int G 0 r.length q (q + 1) r w hH (Nat.le_refl _) (by omega) (by omega) (by omega)
  have e1 : ((q + 1 : Nat) : Int) = (q : Int) + 1 := by omega
  have e2 : r.length - (q + 1 - q) = r.length - 1 := by omega
  rw [e1, e2] at h
  refine h.mono ?_
  rintro e w' ⟨rfl, n, rfl⟩
  refine ⟨rfl, put_moves _ _ _ _, put_size _ _ _ _, fun j z hz => ?_⟩
  have hjl : j < (r.eraseIdx q).length := (List.getElem?_eq_some_iff.1 hz).1
  have hel : (r.eraseIdx q).length = r.length - 1 := List.length_eraseIdx_of_lt hq
  have hs : (r.take q ++ r.drop (q + 1) ++ List.replicate (q + 1 - q) 0).toArray.size = r.toArray.size := by simp; omega
  have hp := holds_putRow (Value.int .i64) (Sort.ahead w n) G 0 r.toArray (r.take q ++ r.drop (q + 1) ++ List.replicate (q + 1 - q) 0).toArray hH hs j (by rw [hs]; simp; omega)
  rw [Nat.zero_add] at hp
  refine ⟨hp.1.trans ?_, hp.2⟩
  have : (r.take q ++ r.drop (q + 1) ++ List.replicate (q + 1 - q) 0)[j]? = some z := by
    rw [← List.eraseIdx_eq_take_drop_succ, List.getElem?_append_left hjl, hz]
  have hlt := (List.getElem?_eq_some_iff.1 this).1
  rw [getElem!_pos _ _ (by simpa using hlt)]
  have h2 := (List.getElem?_eq_some_iff.1 this).2
  simp only [List.getElem_toArray]
  rw [h2]
instance : Inhabited Nat := ⟨0⟩
def encR (M : Nat) (G : Nat) : Value := if G = 0 then .slice none 0 0 else .slice (some ⟨G, 0, none⟩) M M
theorem encR_one (M : Nat) : OneCell (encR M) := fun x => by unfold encR; split <;> rfl
/-- the library's Delete of one row -/
theorem delR_any (g q M : Nat) (G : Nat → Nat) (w : World) (hq : q < M) (hl : M ≤ 6) (hG : ∀ i, i < M → G i ≠ 0) (hB : ∀ i, i < M → w.cell? ⟨g, i, none⟩ = some (.slice (some ⟨G i, 0, none⟩) M M) ∧ w.frozen? ⟨g, i, none⟩ = false) :
    Calls Try.prog 54 #[.slice (some ⟨g, 0, none⟩) M M, .int .i64 (q : Int), .int .i64 ((q : Int) + 1)] w fun e w' =>
      e = .returned (.slice (some ⟨g, 0, none⟩) (M - 1) M) ∧ Moves g (g + 1) w w' ∧ w'.heap.size = w.heap.size ∧ ∀ i, i < M - 1 → w'.cell? ⟨g, i, none⟩ = some (.slice (some ⟨G (skip q i), 0, none⟩) M M) ∧ w'.frozen? ⟨g, i, none⟩ = false := by
  obtain ⟨i1, hj, hy0, hy1, hy2⟩ := info_parts rowsInfo
  obtain ⟨d, hd⟩ : ∃ d : Array Nat, d = ((List.range M).map G).toArray := ⟨_, rfl⟩
  have hds : d.size = M := by rw [hd]; simp
  have hdi : ∀ i, i < M → d[i]! = G i := fun i hi => by rw [getElem!_pos _ _ (by omega)]; simp [hd]
  have hH : Holds (encR M) w g 0 d := fun j hj => by
    have hj2 : j < M := by omega
    rw [Nat.zero_add, hdi j hj2, encR, if_neg (hG j hj2)]
    exact hB j hj2
  have h := Try.slices_Delete_f54 (encR M) (encR_one M) 0 (fun w => by rw [encR, if_pos rfl]; kernel_rfl) i1 hj hy1 g 0 M q (q + 1) d w hH (by omega) (by omega) (by omega) (by omega)
  have e1 : ((q + 1 : Nat) : Int) = (q : Int) + 1 := by omega
  have e2 : M - (q + 1 - q) = M - 1 := by omega
  rw [e1, hds, e2] at h
  refine h.mono ?_
  rintro e w' ⟨rfl, n, rfl⟩
  refine ⟨rfl, put_moves _ _ _ _, put_size _ _ _ _, fun i hi => ?_⟩
  have hs : (d.toList.take q ++ d.toList.drop (q + 1) ++ List.replicate (q + 1 - q) 0).toArray.size = d.size := by simp; omega
  have hp := holds_putRow (encR M) (Sort.ahead w n) g 0 d (d.toList.take q ++ d.toList.drop (q + 1) ++ List.replicate (q + 1 - q) 0).toArray hH hs i (by rw [hs]; omega)
  rw [Nat.zero_add] at hp
  refine ⟨hp.1.trans ?_, hp.2⟩
  have hsk : skip q i < M := by unfold skip; split <;> omega
  have : (d.toList.take q ++ d.toList.drop (q + 1) ++ List.replicate (q + 1 - q) 0)[i]? = some (G (skip q i)) := by
    rw [← List.eraseIdx_eq_take_drop_succ, List.getElem?_append_left (by rw [List.length_eraseIdx_of_lt (by simp; omega)]; simp; omega), List.getElem?_eraseIdx]
    have hgi : ∀ k, k < M → d.toList[k]? = some (G k) := fun k hk => by rw [hd]; simp [hk]
    unfold skip at hsk ⊢
    split
    · rw [hgi _ (by omega)]
    · rw [hgi _ (by omega)]
  have hlt := (List.getElem?_eq_some_iff.1 this).1
  rw [getElem!_pos _ _ (by simpa using hlt)]
  have h2 := (List.getElem?_eq_some_iff.1 this).2
  simp only [List.getElem_toArray]
  rw [h2, encR, if_neg (hG _ hsk)]
/-- how the rows lie once the first k have lost their column -/
def RedSt (w : World) (g : Nat) (G : Nat → Nat) (rs : List (List Int)) (q M k : Nat) : Prop :=
  ∀ (i : Nat) (r : List Int), rs[i]? = some r → r.length = M ∧ w.frozen? ⟨g, i, none⟩ = false ∧ w.cell? ⟨g, i, none⟩ = some (.slice (some ⟨G i, 0, none⟩) (if i < k then M - 1 else M) M) ∧
    (i < k → ∀ (j : Nat) (z : Int), (r.eraseIdx q)[j]? = some z → w.cell? ⟨G i, j, none⟩ = some (.int .i64 z) ∧ w.frozen? ⟨G i, j, none⟩ = false) ∧ (k ≤ i → Blk w (G i) 3 (intCells r).toArray)
theorem RedSt.step {w w2 : World} {g q M k : Nat} {G : Nat → Nat} {rs : List (List Int)} {r : List Int} (h : RedSt w g G rs q M k) (hr : rs[k]? = some r) (hm : Moves (G k) (G k + 1) w w2) (hg : ∀ i, i < rs.length → G i ≠ g ∧ G i < w.heap.size)
    (hgl : g < w.heap.size) (hinj : ∀ i j, i < rs.length → j < rs.length → i ≠ j → G i ≠ G j) (hc : ∀ (j : Nat) (z : Int), (r.eraseIdx q)[j]? = some z → w2.cell? ⟨G k, j, none⟩ = some (.int .i64 z) ∧ w2.frozen? ⟨G k, j, none⟩ = false) :
    RedSt (w2.setCell ⟨g, k, none⟩ (.slice (some ⟨G k, 0, none⟩) (M - 1) M)) g G rs q M (k + 1) := by
  have hk : k < rs.length := (List.getElem?_eq_some_iff.1 hr).1
  intro i s hs
  have hi : i < rs.length := (List.getElem?_eq_some_iff.1 hs).1
  obtain ⟨h1, h2, h3, h4, h5⟩ := h i s hs
  have hgk := hg k hk
  have hbg := hm.block g hgl (by omega)
  have hfg : w2.frozen? ⟨g, i, none⟩ = w.frozen? ⟨g, i, none⟩ := World.frozen?_of_block (a := ⟨g, i, none⟩) hbg
  have hcg : w2.cell? ⟨g, i, none⟩ = w.cell? ⟨g, i, none⟩ := World.cell?_of_block (a := ⟨g, i, none⟩) hbg
  refine ⟨h1, by rw [World.frozen?_setCell, hfg]; exact h2, ?_, fun hik j z hz => ?_, fun hik => ?_⟩
  · by_cases e : i = k
    · subst e
      rw [World.cell?_setCell_same (h := hcg.trans h3), if_pos (by omega)]
    · rw [World.cell?_setCell_other (h := by intro q; injection q with _ q; exact e q.symm), hcg, h3]
      by_cases hik : i < k
      · rw [if_pos hik, if_pos (by omega)]
      · rw [if_neg hik, if_neg (by omega)]
  · have hgi := hg i hi
    rw [World.cell?_setCell_other (h := by intro q; injection q with q; exact hgi.1 q.symm), World.frozen?_setCell]
    by_cases e : i = k
    · subst e
      rw [hr] at hs
      injection hs with hs
      subst hs
      exact hc j z hz
    · have hne := hinj i k hi hk e
      have hbi := hm.block (G i) hgi.2 (by omega)
      rw [World.cell?_of_block (a := ⟨G i, j, none⟩) hbi, World.frozen?_of_block (a := ⟨G i, j, none⟩) hbi]
      exact h4 (by omega) j z hz
  · have hgi := hg i hi
    have hne := hinj i k hi hk (by omega)
    exact ((h5 (by omega)).moves hm (by omega)).far (Ne.symm (fun e => hgi.1 e.symm)) _
theorem RedSt.own {w : World} {g q M base : Nat} {G : Nat → Nat} {rs : List (List Int)} (h : RedSt w g G rs q M rs.length) (hq : q < M) (hgl : g < w.heap.size) (hgb : base ≤ g) (hg : ∀ i, i < rs.length → G i ≠ g ∧ G i < w.heap.size ∧ base ≤ G i) (hinj : ∀ i j, i < rs.length → j < rs.length → i ≠ j → G i ≠ G j) :
    OwnSS w base w.heap.size (some ⟨g, 0, none⟩) (rs.map fun r => r.eraseIdx q) := fun _ => by
  refine ⟨g, 0, G, rfl, hgb, hgl, Nat.le_refl _, fun i r hr => ?_, fun i j hi hj hne => hinj i j (by simpa using hi) (by simpa using hj) hne⟩
  rw [List.getElem?_map, Option.map_eq_some_iff] at hr
  obtain ⟨s, hs, rfl⟩ := hr
  have hi : i < rs.length := (List.getElem?_eq_some_iff.1 hs).1
  obtain ⟨h1, h2, h3, h4, h5⟩ := h i s hs
  have hgi := hg i hi
  refine ⟨some ⟨G i, 0, none⟩, M, ?_, fun _ => ⟨0, rfl, hgi.2.2, hgi.2.1, fun j z hz => ?_⟩, hgi.1⟩
  · rw [Nat.zero_add, h3, if_pos hi, List.length_eraseIdx_of_lt (by omega), h1]
  · rw [Nat.zero_add]
    exact h4 hi j z hz
set_option maxRecDepth 100000 in
set_option maxHeartbeats 4000000 in
theorem implRed_yes (M q : Nat) (A : Option Addr) (c : Nat) (es : List (Int × Int)) (w : World) (hB : graphB M es = true) (hq : q < M) (hE : EdgeS w w.heap.size A es) :
    Calls Try.prog 14 #[.agg #[.int .i64 (M : Int), .slice A es.length c], .int .i64 (q : Int)] w (GivesSS w (redM q (lapM M es))) := by
  obtain ⟨hN1, hN6, hn12⟩ := edgesB_lims (graphB_all hB).1
  have HE := Lib.hid hE
  have hvb : vB (q : Int) (M : Int) = true := vB_t (by omega)
  have HG := fun w h => Lib.hid (implGraphOk (M : Int) A c es w (by omega) h)
  rw [hB] at HG
  have HL := fun w h => Lib.hid (implLap_yes M A c es w hB h)
  have HLR := Lib.hid (fun a h => lapM_at (M := M) es (a := a) h)
  have HRL := Lib.hid (fun a => lapR_len M es a)
  have HLL := Lib.hid (lapM_len M es)
  obtain ⟨L, hL⟩ : ∃ L, L = lapM M es := ⟨_, rfl⟩
  rw [← hL] at HL HLR HLL ⊢
  clear hE hB hL
  have hb0 : Below w.heap.size w (w.alloc (Obj.cells #[.int .i64 (M : Int), .slice A es.length c] 30)) := (Below.refl _ _).alloc (Nat.le_refl _) _
  go_enter Try.func14, Try.ntmps14
  go_wp2_with fail
  refine (HG _ (HE.out.up_ hb0)).out.mono ?_
  rintro e w1 ⟨rfl, hb1⟩
  have hbb : Below w.heap.size w w1 := hb0.trans (hb1.mono hb0.size)
  have hx1 := (Blk.new w 30 #[.int .i64 (M : Int), .slice A es.length c]).below hb1 (by simp)
  have hlx := hx1.lt
  have k0 : w1.cell? ⟨w.heap.size, 0, none⟩ = some (.int .i64 (M : Int)) := by rw [hx1.cell]; rfl
  have k1 : w1.cell? ⟨w.heap.size, 1, none⟩ = some (.slice A es.length c) := by rw [hx1.cell]; rfl
  have HX1 := Lib.hid hx1
  clear hb0 hb1 hx1
  go_wp2_with fail
  refine (hasVertex_any _ _ _ _ ⟨_, _, _, rfl⟩).mono ?_
  rintro e w2 ⟨rfl, hb2⟩
  have hx2 := HX1.out.below hb2 hlx
  have j0 : w2.cell? ⟨w.heap.size, 0, none⟩ = some (.int .i64 (M : Int)) := by rw [hx2.cell]; rfl
  have j1 : w2.cell? ⟨w.heap.size, 1, none⟩ = some (.slice A es.length c) := by rw [hx2.cell]; rfl
  have hb3 : Below w.heap.size w w2 := hbb.trans (hb2.mono hbb.size)
  clear k0 k1 hbb hb2 hx2 HX1
  go_wp2_with fail
  refine (HL _ (HE.out.up_ hb3)).out.mono ?_
  rintro e w3 ⟨g, rfl, hgw, hrows, hb4⟩
  have hb5 : Below w.heap.size w w3 := hb3.trans (hb4.mono hb3.size)
  obtain ⟨vals, G, r1, r2, r3, r4⟩ := hrows
  have hgl := r1.lt
  have hw2 := hb3.size
  have hrow : ∀ i r, L[i]? = some r → w3.cell? ⟨g, i, none⟩ = some (.slice (some ⟨G i, 0, none⟩) M M) ∧ g < G i ∧ G i < w3.heap.size ∧ Blk w3 (G i) 3 (intCells r).toArray ∧ r.length = M := fun i r hr => by
    have hi : i < M := by have := (List.getElem?_eq_some_iff.1 hr).1; have := HLL.out; omega
    have hrl : r.length = M := by have h := HLR.out i hi; rw [hr] at h; injection h with h; rw [h]; exact HRL.out i
    obtain ⟨q1, q2, q3, q4⟩ := r3 i r hi hr
    refine ⟨?_, q2, q3, q4, hrl⟩
    rw [r1.cell, List.getElem?_toArray, List.getElem?_append_left (by omega), q1, hrl]
  have hat : ∀ i, i < M → ∃ r, L[i]? = some r := fun i hi => ⟨_, HLR.out i hi⟩
  have HDR := Lib.hid (delR_any g q M G w3 hq (by omega) (fun i hi => by obtain ⟨r, hr⟩ := hat i hi; have := (hrow i r hr).2.1; omega) (fun i hi => by obtain ⟨r, hr⟩ := hat i hi; exact ⟨(hrow i r hr).1, r1.frozen _⟩))
  have HROW := Lib.hid hrow
  have HAT := Lib.hid hat
  have HINJ := Lib.hid r4
  have HB5 := Lib.hid hb5
  clear hrow hat r1 r2 r3 r4 hb3 hb4 hb5 j0 j1
  go_wp2_with fail
  refine HDR.out.mono ?_
  rintro e w4 ⟨rfl, hm4, hs4, hc4⟩
  have hsk : ∀ i, i < M - 1 → skip q i < M := fun i hi => by unfold skip; split <;> omega
  obtain ⟨rs, hrs⟩ : ∃ rs, rs = L.eraseIdx q := ⟨_, rfl⟩
  have hrsl : rs.length = M - 1 := by rw [hrs, List.length_eraseIdx_of_lt (by have := HLL.out; omega), HLL.out]
  have hrat : ∀ (i : Nat) (r : List Int), rs[i]? = some r → i < M - 1 ∧ L[skip q i]? = some r := fun i r hr => by
    have hi := (List.getElem?_eq_some_iff.1 hr).1
    refine ⟨by omega, ?_⟩
    rw [hrs, List.getElem?_eraseIdx] at hr
    unfold skip
    split at hr
    · rw [if_pos (by assumption)]; exact hr
    · rw [if_neg (by assumption)]; exact hr
  obtain ⟨H, hH⟩ : ∃ H : Nat → Nat, H = fun i => G (skip q i) := ⟨_, rfl⟩
  have hst : RedSt w4 g H rs q M 0 := fun i r hr => by
    obtain ⟨hi, hL⟩ := hrat i r hr
    obtain ⟨p1, p2, p3, p4, p5⟩ := HROW.out _ r hL
    refine ⟨p5, (hc4 i hi).2, by rw [(hc4 i hi).1, if_neg (by omega), hH], fun h => absurd h (by omega), fun _ => by rw [hH]; exact p4.moves hm4 (by omega)⟩
  have hHg : ∀ i, i < rs.length → H i ≠ g ∧ H i < w4.heap.size ∧ w.heap.size ≤ H i := fun i hi => by
    obtain ⟨r, hr⟩ : ∃ r, rs[i]? = some r := ⟨_, List.getElem?_eq_getElem hi⟩
    obtain ⟨p1, p2, p3, _, _⟩ := HROW.out _ r (hrat i r hr).2
    rw [hH]
    show G (skip q i) ≠ g ∧ G (skip q i) < w4.heap.size ∧ w.heap.size ≤ G (skip q i)
    exact ⟨by omega, by omega, by omega⟩
  have hHi : ∀ i j, i < rs.length → j < rs.length → i ≠ j → H i ≠ H j := fun i j hi hj hne => by
    have s1 := hsk i (by omega)
    have s2 := hsk j (by omega)
    rw [hH]
    have h3 : skip q i ≠ skip q j := by unfold skip; split <;> split <;> omega
    rcases Nat.lt_or_ge (skip q i) (skip q j) with l | l
    · have := HINJ.out _ _ l s2; simp only; omega
    · have := HINJ.out _ _ (show skip q j < skip q i by omega) s1; simp only; omega
  have HB4 : Hid (Below w.heap.size w w4) := Lib.hid (belowMoves HB5.out hm4 (by omega) HB5.out.size)
  have HST := Lib.hid hst
  have HHG := Lib.hid hHg
  have HHI := Lib.hid hHi
  have HRSL := Lib.hid hrsl
  have HRES := Lib.hid (show redM q L = rs.map fun r => r.eraseIdx q by rw [redM, hrs])
  have hgl4 : g < w4.heap.size := by omega
  have hM1 : M - 1 ≤ 5 := by omega
  have HS4 := Lib.hid hs4
  clear hc4 hsk hrsl hrat hst hHg hHi hm4 hs4 HROW HAT HINJ HB5 HDR hrs hH
  go_wp2_with fail
  go_loopw [24] (fun i wr => ∃ k : Nat, k ≤ M - 1 ∧ i = .int .i64 k ∧ RedSt wr g H rs q M k ∧ wr.heap.size = w4.heap.size ∧ Below w.heap.size w wr) (fun i _ => M - 1 - (intOf i).toNat)
  case atStart => exact ⟨0, Nat.zero_le _, rfl, HST.out, rfl, HB4.out⟩
  case round =>
    obtain ⟨k, hk, rfl, hst, hsz, hb⟩ := hrel
    have HR := Lib.hid hst
    have HZ := Lib.hid hsz
    have HB := Lib.hid hb
    clear hst hsz hb
    by_cases hlt : k < M - 1
    · obtain ⟨r, hr⟩ : ∃ r, rs[k]? = some r := ⟨_, List.getElem?_eq_getElem (by have := HRSL.out; omega)⟩
      obtain ⟨p1, p2, p3, p4, p5⟩ := HR.out k r hr
      rw [if_neg (by omega)] at p3
      have hk0 : (0 : Int) ≤ (k : Int) := Int.natCast_nonneg _
      have hk1 : (k : Int) < ((M - 1 : Nat) : Int) := by omega
      have hd := delI_any (H k) q r wr (by omega) (by omega) (p5 (Nat.le_refl _))
      rw [p1] at hd
      have HD := Lib.hid hd
      have HRK := Lib.hid hr
      have hgk := HHG.out k (by have := HRSL.out; omega)
      obtain ⟨hgk1, hgk2, hgk3⟩ := hgk
      clear hd hr p1 p4 p5
      go_wp2_with fail
      refine HD.out.mono ?_
      rintro e w5 ⟨rfl, hm5, hs5, hc5⟩
      have hbg := hm5.block g (by have := HZ.out; omega) (by omega)
      have f1 : w5.cell? ⟨g, k, none⟩ = some (.slice (some ⟨H k, 0, none⟩) M M) := (World.cell?_of_block (a := ⟨g, k, none⟩) hbg).trans p3
      have f2 : w5.frozen? ⟨g, k, none⟩ = false := (World.frozen?_of_block (a := ⟨g, k, none⟩) hbg).trans p2
      have HN := Lib.hid (RedSt.step HR.out HRK.out hm5 (fun i hi => by have := HHG.out i hi; have := HZ.out; exact ⟨by omega, by omega⟩) (by have := HZ.out; omega) HHI.out hc5)
      have HBN := Lib.hid ((belowMoves HB.out hm5 (by omega) HB.out.size).setCell (p := ⟨g, k, none⟩) (by simp only; omega) (.slice (some ⟨H k, 0, none⟩) (M - 1) M))
      have HSN := Lib.hid (show (w5.setCell ⟨g, k, none⟩ (.slice (some ⟨H k, 0, none⟩) (M - 1) M)).heap.size = w4.heap.size by rw [World.size_setCell, hs5, HZ.out])
      clear hm5 hs5 hc5 hbg p2 p3
      go_wp2
      exact ⟨⟨k + 1, by omega, by go_num, HN.out, HSN.out, HBN.out⟩, by simp [intOf]; omega⟩
    · have hkl : k = rs.length := by have := HRSL.out; omega
      have hst := HR.out
      rw [hkl] at hst
      have HO := Lib.hid (RedSt.own hst hq (by have := HZ.out; omega) (show w.heap.size ≤ g by omega) (fun i hi => by have h1 := HHG.out i hi; have h2 := HZ.out; exact ⟨by omega, by omega, by omega⟩) HHI.out)
      have HLEN := Lib.hid (show (rs.map fun r => r.eraseIdx q).length = M - 1 by rw [List.length_map, HRSL.out])
      clear hst hkl
      go_wp2
      go_ret
      exact ⟨some ⟨g, 0, none⟩, M, by rw [HRES.out, HLEN.out]; rfl, by rw [HRES.out]; exact HO.out, HB.out⟩
set_option maxHeartbeats 2000000 in
theorem implRed_no (N : Int) (A : Option Addr) (c : Nat) (es : List (Int × Int)) (v : Int) (w : World) (hn : es.length ≤ 1048576) (h : graphB N es = false ∨ (graphB N es = true ∧ vB v N = false)) (hE : EdgeS w w.heap.size A es) :
    Calls Try.prog 14 #[.agg #[.int .i64 N, .slice A es.length c], .int .i64 v] w (GivesSS w []) := by
  have HE := Lib.hid hE
  clear hE
  have hb0 : Below w.heap.size w (w.alloc (Obj.cells #[.int .i64 N, .slice A es.length c] 30)) := (Below.refl _ _).alloc (Nat.le_refl _) _
  rcases h with hB | ⟨hB, hv⟩
  · go_enter Try.func14, Try.ntmps14
    go_wp2_with fail
    refine (implGraphOk _ _ _ _ _ hn (HE.out.up_ hb0)).mono ?_
    rintro e w1 ⟨rfl, hb1⟩
    have hbb : Below w.heap.size w w1 := hb0.trans (hb1.mono hb0.size)
    clear hb0 hb1
    go_wp2
    go_ret
    exact ⟨none, 0, rfl, OwnSS.nil _ _ _ _, hbb⟩
  · go_enter Try.func14, Try.ntmps14
    go_wp2_with fail
    refine (implGraphOk _ _ _ _ _ hn (HE.out.up_ hb0)).mono ?_
    rintro e w1 ⟨rfl, hb1⟩
    have hbb : Below w.heap.size w w1 := hb0.trans (hb1.mono hb0.size)
    have hx1 := (Blk.new w 30 #[.int .i64 N, .slice A es.length c]).below hb1 (by simp)
    have c0 : w1.cell? ⟨w.heap.size, 0, none⟩ = some (.int .i64 N) := by rw [hx1.cell]; rfl
    have c1 : w1.cell? ⟨w.heap.size, 1, none⟩ = some (.slice A es.length c) := by rw [hx1.cell]; rfl
    clear hb0 hb1 hx1
    go_wp2_with fail
    refine (hasVertex_any _ _ _ _ ⟨_, _, _, rfl⟩).mono ?_
    rintro e w2 ⟨rfl, hb2⟩
    have hb3 : Below w.heap.size w w2 := hbb.trans (hb2.mono hbb.size)
    go_wp2
    go_ret
    exact ⟨none, 0, rfl, OwnSS.nil _ _ _ _, hb3⟩
theorem implRed (N : Int) (A : Option Addr) (c : Nat) (es : List (Int × Int)) (q : Int) (w : World) (hn : es.length ≤ 1048576) (hE : EdgeS w w.heap.size A es) :
    Calls Try.prog 14 #[.agg #[.int .i64 N, .slice A es.length c], .int .i64 q] w (GivesSS w (redB N es q)) := by
  cases h : graphB N es with
  | false => rw [redB_f (.inl h)]; exact implRed_no N A c es q w hn (.inl h) hE
  | true =>
    cases h2 : vB q N with
    | false => rw [redB_f (.inr h2)]; exact implRed_no N A c es q w hn (.inr ⟨h, h2⟩) hE
    | true =>
      rw [redB_t h h2]
      have h1 := edgesB_lims (graphB_all h).1
      have h3 := vB_iff h2
      obtain ⟨M, rfl⟩ : ∃ M : Nat, N = (M : Int) := ⟨N.toNat, by omega⟩
      obtain ⟨k, rfl⟩ : ∃ k : Nat, q = (k : Int) := ⟨q.toNat, by omega⟩
      rw [Int.toNat_natCast, Int.toNat_natCast]
      exact implRed_yes M k A c es w h (by omega) hE
theorem redB_len1 {N : Int} {es : List (Int × Int)} {q : Int} : (redB N es q).length ≤ 1048576 := by have := (redB_len (N := N) (es := es) (q := q)).1; omega
theorem redB_lens {N : Int} {es : List (Int × Int)} {q : Int} : lens (redB N es q) ≤ 1048576 := by
  have h1 := (redB_len (N := N) (es := es) (q := q)).1
  have h2 := lens_le 6 (redB N es q) (redB_len (N := N) (es := es) (q := q)).2
  omega
end Go.Proofs.Ytbmihbbpdmpmpaa
