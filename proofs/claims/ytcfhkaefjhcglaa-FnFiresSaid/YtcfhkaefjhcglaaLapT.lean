/- The declarations of other texts that this seat needs (made by tools/thin.py). -/
import Derived.Laws.AppendOwn
import Derived.Laws.OwnMore
import Derived.OwnWalk
import Derived.Test.YtcfhkaefjhcglaaBL
import Derived.Test.YtcfhkaefjhcglaaBC
import Derived.Test.YtcfhkaefjhcglaaBB
import Derived.Test.YtcfhkaefjhcglaaBA
import Derived.Test.YtcfhkaefjhcglaaBI
import Derived.Test.YtcfhkaefjhcglaaBF
import Derived.Test.YtcfhkaefjhcglaaBN
namespace Go.Proofs.Ytcfhkaefjhcglaa
open Go.RowKit

def entryOk (z : Int) : Bool := decide (-500 ≤ z) && decide (z ≤ 500)
def rowOk (n : Nat) (r : List Int) : Bool := decide (r.length = n) && r.all entryOk
def matB (rs : List (List Int)) : Bool := decide (rs.length ≤ 6) && rs.all (rowOk rs.length)
theorem matB_size {rs : List (List Int)} (h : 6 < rs.length) : matB rs = false := by
  simp only [matB, Bool.and_eq_false_iff, decide_eq_false_iff_not]
  omega
theorem matB_miss {rs : List (List Int)} {k : Nat} {r : List Int} (he : rs[k]? = some r) (h : rowOk rs.length r = false) : matB rs = false := by
  have : rs.all (rowOk rs.length) = false := by
    rw [List.all_eq_false]
    exact ⟨r, List.mem_of_getElem? he, by simp [h]⟩
  simp [matB, this]
theorem matB_all {rs : List (List Int)} (h1 : rs.length ≤ 6) (h : rs.all (rowOk rs.length) = true) : matB rs = true := by simp [matB, h1, h]
theorem rowOk_len {n : Nat} {r : List Int} (h : r.length ≠ n) : rowOk n r = false := by simp [rowOk, h]
theorem rowOk_all {n : Nat} {r : List Int} (h1 : r.length = n) (h : r.all entryOk = true) : rowOk n r = true := by simp [rowOk, h1, h]
theorem within_entry : within 500 = entryOk := rfl
set_option maxHeartbeats 1000000 in
theorem implMatrixOk (A : Option Addr) (c : Nat) (rs : List (List Int)) (w : World) (hn : rs.length ≤ 9223372036854775807) (hl : ∀ r ∈ rs, r.length ≤ 9223372036854775807) (hS : IntSS w w.heap.size A rs) :
    Calls Try.prog 69 #[.slice A rs.length c] w fun e w' => e = .returned (.bool (matB rs)) ∧ Below w.heap.size w w' := by
  have HS := Lib.hid hS
  have HL := Lib.hid hl
  clear hS hl
  by_cases h6 : 6 < rs.length
  · have H := Lib.hid (matB_size h6)
    go_enter Try.func69, Try.ntmps69
    go_wp2
    go_ret
    exact ⟨ret_boolE H.out.symm, Below.refl _ _⟩
  have h6' : rs.length ≤ 6 := by omega
  clear h6
  go_enter Try.func69, Try.ntmps69
  go_wp2
  go_loopw [10] (fun i wr => ∃ k : Nat, k ≤ rs.length ∧ i = .int .i64 k ∧ (rs.take k).all (rowOk rs.length) = true ∧ Below w.heap.size w wr) (fun i _ => rs.length - (intOf i).toNat)
  case atStart => exact ⟨0, Nat.zero_le _, rfl, rfl, Below.refl _ _⟩
  case round =>
    obtain ⟨k, hk, rfl, hall, hb⟩ := hrel
    have HA := Lib.hid hall
    clear hall
    by_cases hlt : k < rs.length
    · obtain ⟨b1, o1, r, Ai, ci, rfl, hb1, he, hc0, hri⟩ := (HS.out.below hb).at_ hlt
      have hi0 : (0 : Int) ≤ (k : Int) := Int.natCast_nonneg _
      have hi1 : (k : Int) < (rs.length : Int) := by omega
      have hrl := HL.out r (List.mem_of_getElem? he)
      have HX := Lib.hid he
      by_cases hlen : r.length = rs.length
      · have t1 : ((r.length : Int) != (rs.length : Int)) = false := by simp [hlen]
        have HLN := Lib.hid hlen
        have HCF := Lib.hid (areWithin_any Ai ci _ r 500 wr (by omega) (by omega) (by omega) hri)
        rw [within_entry] at HCF
        clear hlen he hri
        cases hen : r.all entryOk with
        | true =>
          have H := Lib.hid (allTake_snoc HA.out HX.out (rowOk_all HLN.out hen))
          rw [hen] at HCF
          clear hen
          go_wp2_with (go_at_call 67; refine HCF.out.mono ?_; rintro e w' ⟨rfl, rfl⟩)
          exact ⟨⟨k + 1, by omega, by go_num, H.out, hb⟩, by simp [intOf]; omega⟩
        | false =>
          have H := Lib.hid (matB_miss HX.out (show rowOk rs.length r = false by simp [rowOk, hen]))
          rw [hen] at HCF
          clear hen
          go_wp2_with (go_at_call 67; refine HCF.out.mono ?_; rintro e w' ⟨rfl, rfl⟩)
          go_ret
          exact ⟨ret_boolE H.out.symm, hb⟩
      · have t1 : ((r.length : Int) != (rs.length : Int)) = true := by simp; omega
        have H := Lib.hid (matB_miss HX.out (rowOk_len hlen))
        clear hlen he hri
        go_wp2
        go_ret
        exact ⟨ret_boolE H.out.symm, hb⟩
    · have H := Lib.hid (matB_all h6' (allTake_end HA.out (by omega)))
      go_wp2
      go_ret
      exact ⟨ret_boolE H.out.symm, hb⟩
def dot (r x : List Int) : Nat → Int
  | 0 => 0
  | j + 1 => wrap64 (dot r x j + wrap64 (r.getD j 0 * x.getD j 0))
def timesB (rs : List (List Int)) (x : List Int) : List Int := if matB rs = true ∧ x.length = rs.length then rs.map fun r => dot r x rs.length else []
theorem timesB_no {rs : List (List Int)} {x : List Int} (h : matB rs = false ∨ x.length ≠ rs.length) : timesB rs x = [] := by
  rw [timesB, if_neg]
  rintro ⟨h1, h2⟩
  rcases h with h | h
  · rw [h1] at h; cases h
  · exact h h2
theorem timesB_yes {rs : List (List Int)} {x : List Int} (h : matB rs = true) (h2 : x.length = rs.length) : timesB rs x = rs.map fun r => dot r x rs.length := by rw [timesB, if_pos ⟨h, h2⟩]
theorem getD_of {l : List Int} {j : Nat} {z : Int} (h : l[j]? = some z) : l.getD j 0 = z := by simp [List.getD, h]
theorem matB_rows {rs : List (List Int)} (h : matB rs = true) : rs.length ≤ 6 ∧ ∀ r ∈ rs, r.length = rs.length := by
  simp only [matB, Bool.and_eq_true, decide_eq_true_eq, List.all_eq_true] at h
  refine ⟨h.1, fun r hr => ?_⟩
  have := h.2 r hr
  simp only [rowOk, Bool.and_eq_true, decide_eq_true_eq] at this
  exact this.1
set_option maxHeartbeats 1000000 in
theorem implTimes_no (A C : Option Addr) (ca cc : Nat) (rs : List (List Int)) (x : List Int) (w : World) (hn : rs.length ≤ 1048576) (hl : ∀ r ∈ rs, r.length ≤ 1048576) (h : matB rs = false ∨ (matB rs = true ∧ x.length ≠ rs.length)) (hS : IntSS w w.heap.size A rs) :
    Calls Try.prog 21 #[.slice A rs.length ca, .slice C x.length cc] w (GivesInts w []) := by
  have HM := Lib.hid (implMatrixOk A ca rs w (by omega) (fun r hr => by have := hl r hr; omega) hS)
  clear hl hS
  rcases h with h | ⟨h, h2⟩
  · rw [h] at HM
    clear h
    go_enter Try.func21, Try.ntmps21
    go_wp2_with (go_at_call 69; refine HM.out.mono ?_; rintro e w1 ⟨rfl, hb1⟩)
    go_ret
    exact ⟨none, 0, rfl, OwnI.nil _ _ _, hb1⟩
  · rw [h] at HM
    have t1 : ((x.length : Int) != (rs.length : Int)) = true := by simp; omega
    clear h h2
    go_enter Try.func21, Try.ntmps21
    go_wp2_with (go_at_call 69; refine HM.out.mono ?_; rintro e w1 ⟨rfl, hb1⟩)
    go_ret
    exact ⟨none, 0, rfl, OwnI.nil _ _ _, hb1⟩

theorem partI_len (xs : List Int) (k : Nat) (h : k ≤ xs.length) : (partI xs k).length = xs.length := by simp [partI]; omega
theorem partI_same (xs : List Int) (k : Nat) (h : k < xs.length) : (partI xs k).set k 0 = partI xs k := by
  apply List.ext_getElem?
  intro i
  by_cases e : i = k
  · subst e
    rw [partI_at xs i h, List.getElem?_set_self (by rw [partI_len _ _ (by omega)]; exact h)]
  · rw [List.getElem?_set_ne (Ne.symm e)]
theorem blk_setI {w : World} {g : Nat} {t : TypeId} {l : List Int} {k : Nat} {u v : Int} (h : Blk w g t (intCells (l.set k u)).toArray) : Blk (w.setCell ⟨g, k, none⟩ (.int .i64 v)) g t (intCells (l.set k v)).toArray := by
  have h2 := h.set_ k (.int .i64 v)
  rw [List.setIfInBounds_toArray] at h2
  have : (intCells (l.set k u)).set k (.int .i64 v) = intCells (l.set k v) := by
    simp [intCells, List.map_set]
  rw [this] at h2
  exact h2

set_option maxHeartbeats 1000000 in
theorem implTimes_yes (A C : Option Addr) (ca cc : Nat) (rs : List (List Int)) (x : List Int) (w : World) (hm : matB rs = true) (hx : x.length = rs.length) (hS : IntSS w w.heap.size A rs) (hX : IntS w w.heap.size C x) :
    Calls Try.prog 21 #[.slice A rs.length ca, .slice C x.length cc] w (GivesInts w (rs.map fun r => dot r x rs.length)) := by
  obtain ⟨h6, hrow⟩ := matB_rows hm
  have HR := Lib.hid hrow
  have HS := Lib.hid hS
  have HX := Lib.hid hX
  have t1 : ((x.length : Int) != (rs.length : Int)) = false := by simp [hx]
  have HLX := Lib.hid hx
  have HM := Lib.hid (implMatrixOk A ca rs w (by omega) (fun r hr => by rw [hrow r hr]; omega) hS)
  rw [hm] at HM
  have hmk := make_ints rs.length (by omega)
  obtain ⟨outs, houts⟩ : ∃ outs, outs = rs.map fun r => dot r x rs.length := ⟨_, rfl⟩
  have hol : outs.length = rs.length := by rw [houts]; simp
  have HO := Lib.hid houts
  have HOL := Lib.hid hol
  rw [← houts]
  clear hrow hS hX hx hm houts hol
  go_enter Try.func21, Try.ntmps21
  go_wp2_with (go_at_call 69; refine HM.out.mono ?_; rintro e w1 ⟨rfl, hb1⟩)
  have hs1 := hb1.size
  go_loopw [24] (fun i wr => ∃ k : Nat, k ≤ rs.length ∧ i = .int .i64 k ∧ Blk wr w1.heap.size 3 (intCells (partI outs k)).toArray ∧ Below w.heap.size w wr) (fun i _ => rs.length - (intOf i).toNat)
  case atStart =>
    refine ⟨0, Nat.zero_le _, rfl, ?_, hb1.alloc hb1.size _⟩
    have hq := Blk.new w1 3 (intCells (List.replicate rs.length 0)).toArray
    have e : partI outs 0 = List.replicate rs.length 0 := by rw [partI, List.take_zero, Nat.sub_zero, HOL.out]; rfl
    rw [e]
    exact hq
  case round =>
    obtain ⟨k, hk, rfl, hblk, hb⟩ := hrel
    have HB := Lib.hid hblk
    clear hblk hmk
    by_cases hlt : k < rs.length
    · obtain ⟨b1, o1, r, Ai, ci, rfl, hb1', he, hc0, hri⟩ := (HS.out.below hb).at_ hlt
      have hi0 : (0 : Int) ≤ (k : Int) := Int.natCast_nonneg _
      have hi1 : (k : Int) < (rs.length : Int) := by omega
      have hrl : r.length ≤ rs.length := by have := HR.out r (List.mem_of_getElem? he); omega
      have hrl2 : rs.length ≤ r.length := by have := HR.out r (List.mem_of_getElem? he); omega
      have HE := Lib.hid he
      have HRI := Lib.hid hri
      have hko : k < outs.length := by rw [HOL.out]; exact hlt
      have HB0 := Lib.hid (show Blk wr w1.heap.size 3 (intCells ((partI outs k).set k 0)).toArray by rw [partI_same _ _ hko]; exact HB.out)
      clear he hri
      obtain ⟨wo, rfl⟩ : ∃ wo : World, wo = wr := ⟨_, rfl⟩
      go_wp2
      go_loopw [31] (fun i wr => ∃ j : Nat, j ≤ r.length ∧ i = .int .i64 j ∧ Blk wr w1.heap.size 3 (intCells ((partI outs k).set k (dot r x j))).toArray ∧ Below w.heap.size w wr) (fun i _ => r.length - (intOf i).toNat)
      case atStart => exact ⟨0, Nat.zero_le _, rfl, HB0.out, hb⟩
      case round =>
        obtain ⟨j, hj, rfl, hblk2, hb2⟩ := hrel
        have HB2 := Lib.hid hblk2
        clear hblk2
        by_cases hlt2 : j < r.length
        · obtain ⟨b2, o2, z, rfl, hb2', hz, hd0⟩ := (HRI.out.keep (w' := wr) (B' := w.heap.size) (fun p hp => by rw [hb2.cell hp, hb.cell hp]) (Nat.le_refl _)).at_ hlt2
          obtain ⟨b3, o3, y, rfl, hb3, hy, hd1⟩ := (HX.out.below hb2).at_ (k := j) (by have := HLX.out; omega)
          have hj0 : (0 : Int) ≤ (j : Int) := Int.natCast_nonneg _
          have hj1 : (j : Int) < (r.length : Int) := by omega
          have hj2 : (j : Int) < (x.length : Int) := by have := HLX.out; omega
          have HD := Lib.hid (show dot r x (j + 1) = wrap64 (dot r x j + wrap64 (z * y)) by rw [dot, getD_of hz, getD_of hy])
          have hp0 : wr.cell? ⟨w1.heap.size, k, none⟩ = some (.int .i64 (dot r x j)) := by
            rw [HB2.out.cell]
            simp [intCells, partI_len _ _ (Nat.le_of_lt hko), hko]
          have hf0 := HB2.out.frozen k
          clear hz hy
          go_wp2
          go_region
          go_wp2
          refine ⟨⟨j + 1, by omega, by go_num, ?_, (hb2.setCell hs1 _).drew⟩, by simp [intOf]; omega⟩
          rw [HD.out]
          exact (blk_setI HB2.out).drew
        · have HQ := HB2.out
          have hres : outs[k]? = some (dot r x j) := by rw [HO.out, List.getElem?_map, HE.out, show j = rs.length by omega]; rfl
          rw [partI_set _ _ _ hres] at HQ
          have HQ2 := Lib.hid HQ
          clear HQ hres
          go_wp2
          exact ⟨⟨k + 1, by omega, by go_num, HQ2.out, hb2⟩, by simp [intOf]; omega⟩
    · have HQ := HB.out
      rw [show k = outs.length by rw [HOL.out]; omega, partI_all] at HQ
      have HQ2 := Lib.hid HQ
      clear HQ
      go_wp2
      go_ret
      exact ⟨some ⟨w1.heap.size, 0, none⟩, rs.length, by rw [HOL.out]; rfl, OwnI.of_blk HQ2.out hs1, hb⟩
theorem implTimes (A C : Option Addr) (ca cc : Nat) (rs : List (List Int)) (x : List Int) (w : World) (hn : rs.length ≤ 1048576) (hl : ∀ r ∈ rs, r.length ≤ 1048576) (hS : IntSS w w.heap.size A rs) (hX : IntS w w.heap.size C x) :
    Calls Try.prog 21 #[.slice A rs.length ca, .slice C x.length cc] w (GivesInts w (timesB rs x)) := by
  cases h : matB rs with
  | false => rw [timesB_no (.inl h)]; exact implTimes_no A C ca cc rs x w hn hl (.inl h) hS
  | true =>
    by_cases h2 : x.length = rs.length
    · rw [timesB_yes h h2]; exact implTimes_yes A C ca cc rs x w h h2 hS hX
    · rw [timesB_no (.inr h2)]; exact implTimes_no A C ca cc rs x w hn hl (.inr ⟨h, h2⟩) hS
theorem QOwn.set {w : World} {base b o n c g i : Nat} {q : List Int} {u : Value} (h : QOwn w base (.slice (some ⟨b, o, none⟩) n c) q) (hg : g < base) : QOwn (w.setCell ⟨g, i, none⟩ u) base (.slice (some ⟨b, o, none⟩) n c) q :=
  World.ownsRow.kept h (setCell_grown w g i u) (.inr (by have := h.block; simp only [Value.ownBlock, ne_eq, Option.some.injEq]; omega))
open Go.RowKit Go.Maps

def touch (v : Int) (e : Int × Int) : Bool := (e.1 == v) || (e.2 == v)
def valB (N : Int) (es : List (Int × Int)) (v : Int) : Int := if vB v N = true then (es.filter (touch v)).length else 0
theorem valB_yes {N : Int} {es : List (Int × Int)} {v : Int} (h : vB v N = true) : valB N es v = (es.filter (touch v)).length := by rw [valB, if_pos h]
/-- an entry of the Laplacian -/
def lapE (M : Nat) (es : List (Int × Int)) (a b : Nat) : Int := if a = b then valB M es a else - multB M es a b
def lapR (M : Nat) (es : List (Int × Int)) (a : Nat) : List Int := (List.range M).map fun b => lapE M es a b
def lapM (M : Nat) (es : List (Int × Int)) : List (List Int) := (List.range M).map fun a => lapR M es a
theorem lapR_len (M : Nat) (es : List (Int × Int)) (a : Nat) : (lapR M es a).length = M := by simp [lapR]
theorem lapM_len (M : Nat) (es : List (Int × Int)) : (lapM M es).length = M := by simp [lapM]
theorem lapR_at {M : Nat} (es : List (Int × Int)) (a : Nat) {b : Nat} (h : b < M) : (lapR M es a)[b]? = some (lapE M es a b) := by simp [lapR, h]
theorem lapM_at {M : Nat} (es : List (Int × Int)) {a : Nat} (h : a < M) : (lapM M es)[a]? = some (lapR M es a) := by simp [lapM, h]

/-- the Laplacian of a valid graph, else nothing -/
noncomputable def lapB (N : Int) (es : List (Int × Int)) : List (List Int) := if graphB N es = true then lapM N.toNat es else []
theorem lapB_t {N : Int} {es : List (Int × Int)} (h : graphB N es = true) : lapB N es = lapM N.toNat es := by rw [lapB, if_pos h]
theorem lapB_f {N : Int} {es : List (Int × Int)} (h : graphB N es = false) : lapB N es = [] := by rw [lapB, if_neg (by rw [h]; decide)]
/-- a matrix out of a function of two places -/
def mat (M : Nat) (f : Nat → Nat → Int) : List (List Int) := (List.range M).map fun a => (List.range M).map fun b => f a b
theorem mat_len (M : Nat) (f : Nat → Nat → Int) : (mat M f).length = M := by simp [mat]
theorem mat_at {M : Nat} (f : Nat → Nat → Int) {a : Nat} (h : a < M) : (mat M f)[a]? = some ((List.range M).map fun b => f a b) := by simp [mat, h]
/-- one entry turned -/
def bump (f : Nat → Nat → Int) (a b : Nat) (x : Int) : Nat → Nat → Int := fun i j => if i = a ∧ j = b then x else f i j
theorem mat_bump {M a b : Nat} (f : Nat → Nat → Int) (x : Int) : (mat M f).set a (((List.range M).map fun j => f a j).set b x) = mat M (bump f a b x) := by
  apply List.ext_getElem?
  intro i
  by_cases hi : i < M
  · rw [mat_at _ hi]
    by_cases e : a = i
    · subst e
      rw [List.getElem?_set_self (by rw [mat_len]; exact hi)]
      congr 1
      apply List.ext_getElem?
      intro j
      by_cases hj : j < M
      · by_cases e2 : b = j
        · subst e2
          rw [List.getElem?_set_self (by simpa using hj)]
          simp [bump, hj]
        · rw [List.getElem?_set_ne e2]
          have : ¬ j = b := fun h => e2 h.symm
          simp [bump, hj, this]
      · rw [List.getElem?_eq_none (by simp; omega), List.getElem?_eq_none (by simp; omega)]
    · rw [List.getElem?_set_ne e, mat_at _ hi]
      have : ¬ i = a := fun h => e h.symm
      simp [bump, this]
  · rw [List.getElem?_eq_none (by rw [List.length_set, mat_len]; omega), List.getElem?_eq_none (by rw [mat_len]; omega)]

/-- one cell of one row written -/
theorem RowsTo.write {w : World} {g hi a b : Nat} {rs : List (List Int)} {r : List Int} (h : RowsTo w g hi rs rs.length) (hr : rs[a]? = some r) (x : Int) :
    ∃ ga : Nat, g < ga ∧ ga < hi ∧ w.cell? ⟨g, a, none⟩ = some (.slice (some ⟨ga, 0, none⟩) r.length r.length) ∧ Blk w ga 3 (intCells r).toArray ∧
      RowsTo (w.setCell ⟨ga, b, none⟩ (.int .i64 x)) g hi (rs.set a (r.set b x)) (rs.set a (r.set b x)).length := by
  obtain ⟨vals, G, h1, h2, h3, h4⟩ := h
  have ha : a < rs.length := (List.getElem?_eq_some_iff.1 hr).1
  obtain ⟨q1, q2, q3, q4⟩ := h3 a r ha hr
  refine ⟨G a, q2, q3, ?_, q4, ?_⟩
  · rw [h1.cell, List.getElem?_toArray, List.getElem?_append_left (by omega)]
    exact q1
  · rw [List.length_set]
    refine ⟨vals, G, ?_, h2, fun i p hi' hp => ?_, h4⟩
    · rw [List.length_set]
      exact h1.far (p := ⟨G a, b, none⟩) (by simp only; omega) _
    · by_cases e : a = i
      · subst e
        rw [List.getElem?_set_self ha] at hp
        injection hp with hp
        subst hp
        rw [List.length_set]
        refine ⟨q1, q2, q3, ?_⟩
        have h5 := q4.set_ b (.int .i64 x)
        rw [List.setIfInBounds_toArray] at h5
        have : (intCells r).set b (.int .i64 x) = intCells (r.set b x) := by simp [intCells, List.map_set]
        rwa [this] at h5
      · rw [List.getElem?_set_ne e] at hp
        obtain ⟨p1, p2, p3, p4⟩ := h3 i p hi' hp
        refine ⟨p1, p2, p3, p4.far (p := ⟨G a, b, none⟩) ?_ _⟩
        simp only
        rcases Nat.lt_or_gt_of_ne e with l | l
        · have := h4 a i l hi'; omega
        · have := h4 i a l ha; omega
/-- the entries after the first k edges -/
def lapK (es : List (Int × Int)) (k : Nat) (a b : Nat) : Int :=
  if a = b then (((es.take k).filter (touch (a : Int))).length : Int) else -((es.take k).count (min (a : Int) (b : Int), max (a : Int) (b : Int)) : Int)
theorem lapK_zero (es : List (Int × Int)) : lapK es 0 = fun _ _ => 0 := by
  funext a b
  simp [lapK]
theorem lapK_bound (es : List (Int × Int)) (k : Nat) (a b : Nat) : -(es.length : Int) ≤ lapK es k a b ∧ lapK es k a b ≤ es.length := by
  unfold lapK
  have hl : (es.take k).length ≤ es.length := by simp; omega
  split
  · have := List.length_filter_le (touch (a : Int)) (es.take k)
    omega
  · have : (es.take k).count (min (a : Int) (b : Int), max (a : Int) (b : Int)) ≤ (es.take k).length := List.count_le_length
    omega
theorem lapK_step {es : List (Int × Int)} {k x y : Nat} (he : es[k]? = some ((x : Int), (y : Int))) (hxy : x < y) :
    lapK es (k + 1) = bump (bump (bump (bump (lapK es k) x x (lapK es k x x + 1)) y y (lapK es k y y + 1)) x y (lapK es k x y - 1)) y x (lapK es k y x - 1) := by
  have hf : ∀ v : Int, ((es.take (k + 1)).filter (touch v)).length = ((es.take k).filter (touch v)).length + if touch v ((x : Int), (y : Int)) = true then 1 else 0 := fun v => by
    rw [List.take_add_one, he]
    simp only [Option.toList, List.filter_append, List.length_append]
    congr 1
    by_cases h : touch v ((x : Int), (y : Int)) = true
    · rw [if_pos h, List.filter_cons_of_pos h]; rfl
    · rw [if_neg h, List.filter_cons_of_neg h]; rfl
  have hc : ∀ f : Int × Int, (es.take (k + 1)).count f = (es.take k).count f + if ((x : Int), (y : Int)) = f then 1 else 0 := fun f => count_snoc he
  funext a b
  by_cases hab : a = b
  · subst hab
    have h1 : lapK es (k + 1) a a = lapK es k a a + if touch (a : Int) ((x : Int), (y : Int)) = true then 1 else 0 := by
      simp only [lapK, if_true]
      rw [hf]
      split <;> simp
    rw [h1]
    by_cases hx : a = x
    · subst hx
      have h2 : ¬ a = y := by omega
      simp [bump, touch, h2]
    · by_cases hy : a = y
      · subst hy
        simp [bump, touch, hx]
      · have h3 : ¬ (x : Int) = (a : Int) := by omega
        have h4 : ¬ (y : Int) = (a : Int) := by omega
        simp [bump, touch, hx, hy, h3, h4]
  · have h1 : lapK es (k + 1) a b = lapK es k a b - if ((x : Int), (y : Int)) = (min (a : Int) (b : Int), max (a : Int) (b : Int)) then 1 else 0 := by
      simp only [lapK, if_neg hab]
      rw [hc]
      split <;> simp <;> omega
    rw [h1]
    by_cases hx : a = x ∧ b = y
    · obtain ⟨rfl, rfl⟩ := hx
      have h2 : ¬ b = a := by omega
      have e1 : min (a : Int) (b : Int) = a := by omega
      have e2 : max (a : Int) (b : Int) = b := by omega
      simp [bump, hab, h2, e1, e2]
    · by_cases hy : a = y ∧ b = x
      · obtain ⟨rfl, rfl⟩ := hy
        have h2 : ¬ b = a := by omega
        have e1 : min (a : Int) (b : Int) = b := by omega
        have e2 : max (a : Int) (b : Int) = a := by omega
        simp [bump, e1, e2]
      · have hne : ¬ (((x : Int), (y : Int)) = (min (a : Int) (b : Int), max (a : Int) (b : Int))) := by
          intro h
          injection h with h3 h4
          rcases Nat.lt_or_gt_of_ne hab with l | l
          · exact hx ⟨by omega, by omega⟩
          · exact hy ⟨by omega, by omega⟩
        rw [if_neg hne]
        have g1 : ¬ (a = x ∧ b = x) := fun h => hab (h.1.trans h.2.symm)
        have g2 : ¬ (a = y ∧ b = y) := fun h => hab (h.1.trans h.2.symm)
        simp only [bump, if_neg hx, if_neg hy, if_neg g1, if_neg g2]
        omega
theorem lapK_all (M : Nat) (es : List (Int × Int)) : mat M (lapK es es.length) = lapM M es := by
  apply List.ext_getElem?
  intro a
  by_cases ha : a < M
  · rw [mat_at _ ha, lapM_at es ha]
    congr 1
    apply List.ext_getElem?
    intro b
    by_cases hb : b < M
    · rw [lapR_at es a hb, List.getElem?_map, List.getElem?_range hb]
      simp only [Option.map_some, Option.some.injEq]
      unfold lapK lapE
      by_cases hab : a = b
      · rw [if_pos hab, if_pos hab, List.take_length, valB_yes (vB_t (by omega))]
      · rw [if_neg hab, if_neg hab, List.take_length, multB_yes (vB_t (by omega)) (vB_t (by omega)) (by omega)]
    · rw [List.getElem?_eq_none (by simp; omega), List.getElem?_eq_none (by rw [lapR_len]; omega)]
  · rw [List.getElem?_eq_none (by rw [mat_len]; omega), List.getElem?_eq_none (by rw [lapM_len]; omega)]
theorem zero_row (M : Nat) {k : Nat} (h : k < M) : (mat M fun _ _ => 0)[k]? = some (List.replicate M 0) := by
  rw [mat_at _ h]
  congr 1
  apply List.ext_getElem?
  intro j
  rw [List.getElem?_map, List.getElem?_replicate]
  split
  · rw [List.getElem?_range (by assumption)]; rfl
  · rw [List.getElem?_eq_none (by simp; omega)]; rfl

/-- one entry of a matrix in memory: what it reads, what a write leaves -/
theorem mat_write {W : World} {go hi M a b : Nat} {f : Nat → Nat → Int} (h : RowsTo W go hi (mat M f) M) (ha : a < M) (hb : b < M) :
    ∃ ga : Nat, go < ga ∧ ga < hi ∧ W.cell? ⟨go, a, none⟩ = some (.slice (some ⟨ga, 0, none⟩) M M) ∧ W.cell? ⟨ga, b, none⟩ = some (.int .i64 (f a b)) ∧ W.frozen? ⟨ga, b, none⟩ = false ∧
      ∀ x, RowsTo (W.setCell ⟨ga, b, none⟩ (.int .i64 x)).drew go hi (mat M (bump f a b x)) M := by
  have h' : RowsTo W go hi (mat M f) (mat M f).length := by rw [mat_len]; exact h
  obtain ⟨ga, h1, h2, h3, h4, _⟩ := RowsTo.write (b := b) h' (mat_at f ha) 0
  refine ⟨ga, h1, h2, by simpa using h3, blk_get h4 (by simp [hb]), h4.frozen _, fun x => ?_⟩
  obtain ⟨ga', _, _, h3', _, h5⟩ := RowsTo.write (b := b) h' (mat_at f ha) x
  rw [h3] at h3'
  simp only [Option.some.injEq, Value.slice.injEq, Addr.mk.injEq, and_true] at h3'
  obtain ⟨rfl, _⟩ := h3'
  rw [mat_bump, mat_len] at h5
  exact h5
theorem two_cellsL {w : World} {g : Nat} {t : TypeId} {u v : Value} (h : Blk w g t #[u, v]) : w.cell? ⟨g, 0, none⟩ = some u ∧ w.cell? ⟨g, 1, none⟩ = some v := ⟨by rw [h.cell]; rfl, by rw [h.cell]; rfl⟩

set_option maxRecDepth 100000 in
set_option maxHeartbeats 4000000 in
theorem implLap_yes (M : Nat) (A : Option Addr) (c : Nat) (es : List (Int × Int)) (w : World) (hB : graphB M es = true) (hE : EdgeS w w.heap.size A es) :
    Calls Try.prog 22 #[.agg #[.int .i64 (M : Int), .slice A es.length c]] w (fun e w' => ∃ g : Nat, e = .returned (.slice (some ⟨g, 0, none⟩) M M) ∧ w.heap.size ≤ g ∧ RowsTo w' g w'.heap.size (lapM M es) M ∧ Below w.heap.size w w') := by
  obtain ⟨hEB, _⟩ := graphB_all hB
  obtain ⟨hN1, hN6, hn12⟩ := edgesB_lims hEB
  have hmr := make_rows M (by omega)
  have hmi := make_ints M (by omega)
  have HEB := Lib.hid hEB
  have HE := Lib.hid hE
  clear hE hEB
  have hb0 : Below w.heap.size w (w.alloc (Obj.cells #[.int .i64 (M : Int), .slice A es.length c] 25)) := (Below.refl _ _).alloc (Nat.le_refl _) _
  go_enter Try.func22, Try.ntmps22
  go_wp2_with fail
  refine (implGraphOk _ _ _ _ _ (by omega) (HE.out.up_ hb0)).mono ?_
  rintro e w1 ⟨rfl, hb1⟩
  have hbb : Below w.heap.size w w1 := hb0.trans (hb1.mono hb0.size)
  have hx1 := (Blk.new w 25 #[.int .i64 (M : Int), .slice A es.length c]).below hb1 (by simp)
  have c0 : w1.cell? ⟨w.heap.size, 0, none⟩ = some (.int .i64 (M : Int)) := by rw [hx1.cell]; rfl
  have c1 : w1.cell? ⟨w.heap.size, 1, none⟩ = some (.slice A es.length c) := by rw [hx1.cell]; rfl
  have hlx := hx1.lt
  have HX1 := Lib.hid hx1
  clear hb0 hb1 hx1
  go_wp2_with fail
  go_loopw [15] (fun i wr => ∃ k : Nat, k ≤ M ∧ i = .int .i64 k ∧ RowsTo wr w1.heap.size wr.heap.size (mat M fun _ _ => 0) k ∧ w1.heap.size < wr.heap.size ∧ Blk wr w.heap.size 25 #[.int .i64 (M : Int), .slice A es.length c] ∧ Below w.heap.size w wr) (fun i _ => M - (intOf i).toNat)
  case atStart => exact ⟨0, Nat.zero_le _, rfl, ⟨[], fun _ => 0, by rw [mat_len]; exact Blk.new w1 _ _, rfl, fun i r hi _ => absurd hi (by omega), fun i j _ hj => absurd hj (by omega)⟩, by simp, HX1.out.alloc _, hbb.alloc hbb.size _⟩
  case round =>
    obtain ⟨k, hk, rfl, hrow, hlt0, hbx, hb⟩ := hrel
    have HR := Lib.hid hrow
    have HBX := Lib.hid hbx
    have hlb := hbx.lt
    have g0 : wr.cell? ⟨w.heap.size, 0, none⟩ = some (.int .i64 (M : Int)) := by rw [hbx.cell]; rfl
    have g1 : wr.cell? ⟨w.heap.size, 1, none⟩ = some (.slice A es.length c) := by rw [hbx.cell]; rfl
    clear hrow hbx
    by_cases hlt : k < M
    · have hk0 : (0 : Int) ≤ (k : Int) := Int.natCast_nonneg _
      have hk1 : (k : Int) < (M : Int) := by omega
      obtain ⟨hcl, hfr⟩ := HR.out.cell (by rw [mat_len]; exact hlt)
      have hbA : Below wr.heap.size wr (wr.alloc (Obj.cells (intCells (List.replicate M 0)).toArray 3)) := (Below.refl _ _).alloc (Nat.le_refl _) _
      have hput := ((HR.out.below hbA).put (zero_row M hlt) hlt0 (Blk.new wr 3 (intCells (List.replicate M 0)).toArray))
      rw [List.length_replicate, World.setCell_alloc_past _ _ _ _ hlt0] at hput
      have hbx5 := (HBX.out.far (p := ⟨w1.heap.size, k, none⟩) (by simp only; have := hbb.size; omega) (.slice (some ⟨wr.heap.size, 0, none⟩) M M)).alloc (Obj.cells (intCells (List.replicate M 0)).toArray 3)
      have hb5 : Below w.heap.size w ((wr.setCell ⟨w1.heap.size, k, none⟩ (.slice (some ⟨wr.heap.size, 0, none⟩) M M)).alloc (Obj.cells (intCells (List.replicate M 0)).toArray 3)) := (hb.setCell (p := ⟨w1.heap.size, k, none⟩) hbb.size _).alloc (by simp; omega) _
      have hsz5 : ((wr.setCell ⟨w1.heap.size, k, none⟩ (.slice (some ⟨wr.heap.size, 0, none⟩) M M)).alloc (Obj.cells (intCells (List.replicate M 0)).toArray 3)).heap.size = wr.heap.size + 1 := by simp
      have HSZ := Lib.hid hsz5
      have HBX5 := Lib.hid hbx5
      have HB5 := Lib.hid hb5
      clear hsz5 hbx5 hb5
      have HP := Lib.hid hput
      clear hput
      go_wp2
      exact ⟨⟨k + 1, by omega, by go_num, HP.out.more (by rw [HSZ.out]; omega), by rw [HSZ.out]; omega, HBX5.out, HB5.out⟩, by simp [intOf]; omega⟩
    · obtain rfl : M = k := by omega
      have hr0 := HR.out
      rw [← lapK_zero es] at hr0
      have HR0 := Lib.hid hr0
      clear hr0 hmr hmi
      obtain ⟨hi0, hhi⟩ : ∃ x, x = wr.heap.size := ⟨_, rfl⟩
      rw [← hhi] at HR0
      have hhi2 : hi0 ≤ wr.heap.size := by omega
      clear hhi
      go_wp2_with fail
      go_loopw [28] (fun i wr => ∃ m : Nat, m ≤ es.length ∧ i = .int .i64 m ∧ RowsTo wr w1.heap.size hi0 (mat M (lapK es m)) M ∧ hi0 ≤ wr.heap.size ∧ Below w.heap.size w wr) (fun i _ => es.length - (intOf i).toNat)
      case atStart => exact ⟨0, Nat.zero_le _, rfl, HR0.out, hhi2, hb⟩
      case round =>
        obtain ⟨m, hm, rfl, hrow, hsz, hb2⟩ := hrel
        have HR2 := Lib.hid hrow
        clear hrow
        by_cases hlt2 : m < es.length
        · skip
          obtain ⟨b1, o1, e, rfl, hb1, he, hc0, hc1⟩ := (HE.out.below hb2).at_ hlt2
          obtain ⟨hA, hB', hC⟩ := all_edge HEB.out (List.mem_of_getElem? he)
          obtain ⟨x0, y0⟩ := e
          simp only at hA hB' hC
          obtain ⟨x, rfl⟩ : ∃ x : Nat, x0 = (x : Int) := ⟨x0.toNat, by omega⟩
          obtain ⟨y, rfl⟩ : ∃ y : Nat, y0 = (y : Int) := ⟨y0.toNat, by omega⟩
          have hxM : x < M := by omega
          have hyM : y < M := by omega
          have hxi : (0 : Int) ≤ (x : Int) := Int.natCast_nonneg _
          have hyi : (0 : Int) ≤ (y : Int) := Int.natCast_nonneg _
          have hxj : (x : Int) < (M : Int) := by omega
          have hyj : (y : Int) < (M : Int) := by omega
          have hm0 : (0 : Int) ≤ (m : Int) := Int.natCast_nonneg _
          have hm1 : (m : Int) < (es.length : Int) := by omega
          have HST := Lib.hid (lapK_step he (by omega))
          have hxy : x < y := by omega
          have b11 := lapK_bound es m x x
          have b22 := lapK_bound es m y y
          have b12 := lapK_bound es m x y
          have b21 := lapK_bound es m y x
          have hblw : b1 < wr.heap.size := by have := hb2.size; omega
          have hbA : Below wr.heap.size wr (wr.alloc (Obj.cells #[.int .i64 (x : Int), .int .i64 (y : Int)] 74)) := (Below.refl _ _).alloc (Nat.le_refl _) _
          have R0 := Lib.hid (HR2.out.below hbA)
          have C0 := Lib.hid (Blk.new wr 74 #[.int .i64 (x : Int), .int .i64 (y : Int)])
          have D0 := hb2.alloc hb2.size (Obj.cells #[.int .i64 (x : Int), .int .i64 (y : Int)] 74)
          have E0 : hi0 ≤ (wr.alloc (Obj.cells #[.int .i64 (x : Int), .int .i64 (y : Int)] 74)).heap.size := by simp; omega
          have F0 := C0.out.lt
          clear he hA hB' hC
          go_wp2_with fail
          obtain ⟨W0, hW0⟩ : ∃ X : World, X = wr.alloc (Obj.cells #[.int .i64 (x : Int), .int .i64 (y : Int)] 74) := ⟨_, rfl⟩
          rw [← hW0] at R0 C0 D0 E0 F0 ⊢
          clear hW0 hbA hc0 hc1
          obtain ⟨g0, a0, b0, r0, v0, f0, HW0⟩ := mat_write R0.out hxM hxM
          obtain ⟨p0, q0⟩ := two_cellsL C0.out
          have z0 : g0 < hi0 := b0
          have R1 := Lib.hid (HW0 (lapK es m x x + 1))
          have C1 := Lib.hid ((C0.out.far (p := ⟨g0, x, none⟩) (by simp only; omega) (.int .i64 (lapK es m x x + 1))).drew)
          have D1 : Below w.heap.size w (W0.setCell ⟨g0, x, none⟩ (.int .i64 (lapK es m x x + 1))).drew := (D0.setCell (p := ⟨g0, x, none⟩) (by simp only; have := hbb.size; omega) _).drew
          have E1 : hi0 ≤ (W0.setCell ⟨g0, x, none⟩ (.int .i64 (lapK es m x x + 1))).drew.heap.size := by simp only [World.drew, World.setCell, Array.size_modify]; exact E0
          have F1 : wr.heap.size < (W0.setCell ⟨g0, x, none⟩ (.int .i64 (lapK es m x x + 1))).drew.heap.size := C1.out.lt
          clear HW0
          go_wp2_with fail
          go_region
          obtain ⟨W1, hW1⟩ : ∃ X : World, X = (W0.setCell ⟨g0, x, none⟩ (.int .i64 (lapK es m x x + 1))).drew := ⟨_, rfl⟩
          rw [← hW1] at R1 C1 D1 E1 F1 ⊢
          clear hW1 r0 v0 f0 p0 q0 D0 E0 F0
          obtain ⟨g1, a1, b1, r1, v1, f1, HW1⟩ := mat_write R1.out hyM hyM
          have e1 : (bump (lapK es m) x x (lapK es m x x + 1)) y y = lapK es m y y := by simp only [bump]; repeat (rw [if_neg (by omega)])
          rw [e1] at v1
          clear e1
          obtain ⟨p1, q1⟩ := two_cellsL C1.out
          have z1 : g1 < hi0 := b1
          have R2 := Lib.hid (HW1 (lapK es m y y + 1))
          have C2 := Lib.hid ((C1.out.far (p := ⟨g1, y, none⟩) (by simp only; omega) (.int .i64 (lapK es m y y + 1))).drew)
          have D2 : Below w.heap.size w (W1.setCell ⟨g1, y, none⟩ (.int .i64 (lapK es m y y + 1))).drew := (D1.setCell (p := ⟨g1, y, none⟩) (by simp only; have := hbb.size; omega) _).drew
          have E2 : hi0 ≤ (W1.setCell ⟨g1, y, none⟩ (.int .i64 (lapK es m y y + 1))).drew.heap.size := by simp only [World.drew, World.setCell, Array.size_modify]; exact E1
          have F2 : wr.heap.size < (W1.setCell ⟨g1, y, none⟩ (.int .i64 (lapK es m y y + 1))).drew.heap.size := C2.out.lt
          clear HW1
          go_wp2_with fail
          go_region
          obtain ⟨W2, hW2⟩ : ∃ X : World, X = (W1.setCell ⟨g1, y, none⟩ (.int .i64 (lapK es m y y + 1))).drew := ⟨_, rfl⟩
          rw [← hW2] at R2 C2 D2 E2 F2 ⊢
          clear hW2 r1 v1 f1 p1 q1 D1 E1 F1
          obtain ⟨g2, a2, b2, r2, v2, f2, HW2⟩ := mat_write R2.out hxM hyM
          have e2 : (bump (bump (lapK es m) x x (lapK es m x x + 1)) y y (lapK es m y y + 1)) x y = lapK es m x y := by simp only [bump]; repeat (rw [if_neg (by omega)])
          rw [e2] at v2
          clear e2
          obtain ⟨p2, q2⟩ := two_cellsL C2.out
          have z2 : g2 < hi0 := b2
          have R3 := Lib.hid (HW2 (lapK es m x y - 1))
          have C3 := Lib.hid ((C2.out.far (p := ⟨g2, y, none⟩) (by simp only; omega) (.int .i64 (lapK es m x y - 1))).drew)
          have D3 : Below w.heap.size w (W2.setCell ⟨g2, y, none⟩ (.int .i64 (lapK es m x y - 1))).drew := (D2.setCell (p := ⟨g2, y, none⟩) (by simp only; have := hbb.size; omega) _).drew
          have E3 : hi0 ≤ (W2.setCell ⟨g2, y, none⟩ (.int .i64 (lapK es m x y - 1))).drew.heap.size := by simp only [World.drew, World.setCell, Array.size_modify]; exact E2
          have F3 : wr.heap.size < (W2.setCell ⟨g2, y, none⟩ (.int .i64 (lapK es m x y - 1))).drew.heap.size := C3.out.lt
          clear HW2
          go_wp2_with fail
          go_region
          obtain ⟨W3, hW3⟩ : ∃ X : World, X = (W2.setCell ⟨g2, y, none⟩ (.int .i64 (lapK es m x y - 1))).drew := ⟨_, rfl⟩
          rw [← hW3] at R3 C3 D3 E3 F3 ⊢
          clear hW3 r2 v2 f2 p2 q2 D2 E2 F2
          obtain ⟨g3, a3, b3, r3, v3, f3, HW3⟩ := mat_write R3.out hyM hxM
          have e3 : (bump (bump (bump (lapK es m) x x (lapK es m x x + 1)) y y (lapK es m y y + 1)) x y (lapK es m x y - 1)) y x = lapK es m y x := by simp only [bump]; repeat (rw [if_neg (by omega)])
          rw [e3] at v3
          clear e3
          obtain ⟨p3, q3⟩ := two_cellsL C3.out
          have z3 : g3 < hi0 := b3
          have R4 := Lib.hid (HW3 (lapK es m y x - 1))
          have C4 := Lib.hid ((C3.out.far (p := ⟨g3, x, none⟩) (by simp only; omega) (.int .i64 (lapK es m y x - 1))).drew)
          have D4 : Below w.heap.size w (W3.setCell ⟨g3, x, none⟩ (.int .i64 (lapK es m y x - 1))).drew := (D3.setCell (p := ⟨g3, x, none⟩) (by simp only; have := hbb.size; omega) _).drew
          have E4 : hi0 ≤ (W3.setCell ⟨g3, x, none⟩ (.int .i64 (lapK es m y x - 1))).drew.heap.size := by simp only [World.drew, World.setCell, Array.size_modify]; exact E3
          have F4 : wr.heap.size < (W3.setCell ⟨g3, x, none⟩ (.int .i64 (lapK es m y x - 1))).drew.heap.size := C4.out.lt
          clear HW3
          go_wp2_with fail
          go_region
          obtain ⟨W4, hW4⟩ : ∃ X : World, X = (W3.setCell ⟨g3, x, none⟩ (.int .i64 (lapK es m y x - 1))).drew := ⟨_, rfl⟩
          rw [← hW4] at R4 C4 D4 E4 F4 ⊢
          clear hW4 r3 v3 f3 p3 q3 D3 E3 F3
          have hfin := R4.out
          rw [← HST.out] at hfin
          have HFN := Lib.hid hfin
          clear hfin
          go_wp2
          go_roundw
          case rel => exact ⟨m + 1, by omega, by go_num, HFN.out, E4, D4⟩
          case measure => simp [intOf]; omega
        · have HF : Hid (RowsTo wr w1.heap.size wr.heap.size (lapM M es) M) := Lib.hid (by
            have h := HR2.out
            rw [show m = es.length by omega, lapK_all] at h
            exact h.more hsz)
          go_wp2
          go_ret
          exact ⟨w1.heap.size, rfl, hbb.size, HF.out, hb2⟩
set_option maxHeartbeats 1000000 in
theorem implLap_no (N : Int) (A : Option Addr) (c : Nat) (es : List (Int × Int)) (w : World) (hn : es.length ≤ 1048576) (hB : graphB N es = false) (hE : EdgeS w w.heap.size A es) :
    Calls Try.prog 22 #[.agg #[.int .i64 N, .slice A es.length c]] w (GivesSS w []) := by
  have HE := Lib.hid hE
  clear hE
  have hb0 : Below w.heap.size w (w.alloc (Obj.cells #[.int .i64 N, .slice A es.length c] 25)) := (Below.refl _ _).alloc (Nat.le_refl _) _
  have HG := fun w h => Lib.hid (implGraphOk N A c es w hn h)
  rw [hB] at HG
  clear hB
  go_enter Try.func22, Try.ntmps22
  go_wp2_with fail
  refine (HG _ (HE.out.up_ hb0)).out.mono ?_
  rintro e w1 ⟨rfl, hb1⟩
  have hbb : Below w.heap.size w w1 := hb0.trans (hb1.mono hb0.size)
  clear hb0 hb1
  go_wp2
  go_ret
  exact ⟨none, 0, rfl, OwnSS.nil _ _ _ _, hbb⟩
theorem implLap (N : Int) (A : Option Addr) (c : Nat) (es : List (Int × Int)) (w : World) (hn : es.length ≤ 1048576) (hE : EdgeS w w.heap.size A es) :
    Calls Try.prog 22 #[.agg #[.int .i64 N, .slice A es.length c]] w (GivesSS w (lapB N es)) := by
  cases h : graphB N es with
  | false => rw [lapB_f h]; exact implLap_no N A c es w hn h hE
  | true =>
    rw [lapB_t h]
    have h1 := edgesB_lims (graphB_all h).1
    obtain ⟨M, rfl⟩ : ∃ M : Nat, N = (M : Int) := ⟨N.toNat, by omega⟩
    rw [Int.toNat_natCast]
    refine (implLap_yes M A c es w h hE).mono ?_
    rintro e w' ⟨g, rfl, hg, hr, hb⟩
    have hlm := lapM_len M es
    have hr2 : RowsTo w' g w'.heap.size (lapM M es) (lapM M es).length := by rw [hlm]; exact hr
    have hgl : g < w'.heap.size := by obtain ⟨_, _, h, _⟩ := hr; exact h.lt
    exact ⟨some ⟨g, 0, none⟩, M, by rw [hlm], (OwnSS.of_rows hr2 hgl (Nat.le_refl _)).mono hg, hb⟩
end Go.Proofs.Ytcfhkaefjhcglaa
