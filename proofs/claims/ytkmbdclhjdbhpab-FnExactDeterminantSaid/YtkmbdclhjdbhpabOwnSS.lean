/- Slices of slices of ints in memory of the call's own, whatever lies behind each row: the laws' marks on them. -/
import Derived.Test.YtkmbdclhjdbhpabKeep
namespace Go.Proofs.Ytkmbdclhjdbhpab
open Go.RowKit

/-- a row in the block G, between base and hi, that may be written -/
def OwnR (w : World) (base hi G : Nat) (A : Option Addr) (r : List Int) : Prop :=
  0 < r.length → ∃ o : Nat, A = some ⟨G, o, none⟩ ∧ base ≤ G ∧ G < hi ∧ ∀ (j : Nat) (z : Int), r[j]? = some z → w.cell? ⟨G, o + j, none⟩ = some (.int .i64 z) ∧ w.frozen? ⟨G, o + j, none⟩ = false
def OwnSS (w : World) (base hi : Nat) (A : Option Addr) (rs : List (List Int)) : Prop :=
  0 < rs.length → ∃ (g off : Nat) (G : Nat → Nat), A = some ⟨g, off, none⟩ ∧ base ≤ g ∧ g < hi ∧ hi ≤ w.heap.size ∧
    (∀ (i : Nat) (r : List Int), rs[i]? = some r → ∃ (Ai : Option Addr) (ci : Nat), w.cell? ⟨g, off + i, none⟩ = some (.slice Ai r.length ci) ∧ OwnR w base hi (G i) Ai r ∧ G i ≠ g) ∧ ∀ i j, i < rs.length → j < rs.length → i ≠ j → G i ≠ G j
section
variable {w w' : World} {base hi lo' hi' : Nat} {A : Option Addr} {rs : List (List Int)}
theorem OwnR.moves {G : Nat} {r : List Int} (h : OwnR w base hi G A r) (m : Moves lo' hi' w w') (hs : hi ≤ w.heap.size) (h1 : G < lo' ∨ hi' ≤ G) : OwnR w' base hi G A r := fun hn => by
  obtain ⟨o, e, h2, h3, h4⟩ := h hn
  have hbl := m.block G (by omega) h1
  exact ⟨o, e, h2, h3, fun j z hz => ⟨(World.cell?_of_block (a := ⟨G, o + j, none⟩) hbl).trans (h4 j z hz).1, (World.frozen?_of_block (a := ⟨G, o + j, none⟩) hbl).trans (h4 j z hz).2⟩⟩
theorem OwnR.keep {G : Nat} {r : List Int} (h : OwnR w base hi G A r) (hbl : w'.heap[G]? = w.heap[G]?) : OwnR w' base hi G A r := fun hn => by
  obtain ⟨o, e, h2, h3, h4⟩ := h hn
  exact ⟨o, e, h2, h3, fun j z hz => ⟨(World.cell?_of_block (a := ⟨G, o + j, none⟩) hbl).trans (h4 j z hz).1, (World.frozen?_of_block (a := ⟨G, o + j, none⟩) hbl).trans (h4 j z hz).2⟩⟩
theorem OwnR.none_ {G : Nat} {r : List Int} (h : r.length = 0) : OwnR w base hi G A r := fun hn => absurd hn (by omega)
theorem OwnSS.moves (h : OwnSS w base hi A rs) (m : Moves lo' hi' w w') (h1 : hi ≤ lo' ∨ hi' ≤ base) : OwnSS w' base hi A rs := fun hn => by
  obtain ⟨g, off, G, e, h2, h3, h4, h5, h6⟩ := h hn
  have hs := m.size
  refine ⟨g, off, G, e, h2, h3, by omega, fun i r hr => ?_, h6⟩
  obtain ⟨Ai, ci, q1, q2, q3⟩ := h5 i r hr
  refine ⟨Ai, ci, (World.cell?_of_block (a := ⟨g, off + i, none⟩) (m.block g (by omega) (by omega))).trans q1, ?_, q3⟩
  by_cases hz : 0 < r.length
  · obtain ⟨o, e2, p1, p2, _⟩ := q2 hz
    exact q2.moves m h4 (by omega)
  · exact OwnR.none_ (by omega)
theorem OwnSS.ints (h : OwnSS w base hi A rs) : IntSS w hi A rs := fun hn => by
  obtain ⟨g, off, G, e, h2, h3, h4, h5, h6⟩ := h hn
  refine ⟨g, off, e, h3, fun i r hr => ?_⟩
  obtain ⟨Ai, ci, q1, q2, q3⟩ := h5 i r hr
  refine ⟨Ai, ci, q1, fun hz => ?_⟩
  obtain ⟨o, e2, p1, p2, p3⟩ := q2 hz
  exact ⟨G i, o, e2, p2, fun j z hj => (p3 j z hj).1⟩
theorem OwnSS.of_rows {g : Nat} (h : RowsTo w g hi rs rs.length) (hg : g < hi) (hh : hi ≤ w.heap.size) : OwnSS w g hi (some ⟨g, 0, none⟩) rs := fun _ => by
  obtain ⟨vals, G, h1, h2, h3, h4⟩ := h
  refine ⟨g, 0, G, rfl, Nat.le_refl _, hg, hh, fun i r hr => ?_, fun i j hi hj hne => ?_⟩
  · have hi : i < rs.length := (List.getElem?_eq_some_iff.1 hr).1
    obtain ⟨q1, q2, q4, q3⟩ := h3 i r hi hr
    refine ⟨some ⟨G i, 0, none⟩, r.length, ?_, fun _ => ⟨0, rfl, by omega, q4, fun j z hz => ⟨?_, q3.frozen _⟩⟩, by omega⟩
    · rw [h1.cell, List.getElem?_toArray, Nat.zero_add, List.getElem?_append_left (by omega)]
      exact q1
    · rw [q3.cell]
      simp [intCells, hz]
  · rcases Nat.lt_or_ge i j with l | l
    · have := h4 i j l hj
      omega
    · have := h4 j i (by omega) hi
      omega
theorem OwnSS.mono {base' : Nat} (h : OwnSS w base hi A rs) (hb : base' ≤ base) : OwnSS w base' hi A rs := fun hn => by
  obtain ⟨g, off, G, e, h2, h3, h4, h5, h6⟩ := h hn
  refine ⟨g, off, G, e, by omega, h3, h4, fun i r hr => ?_, h6⟩
  obtain ⟨Ai, ci, q1, q2, q3⟩ := h5 i r hr
  refine ⟨Ai, ci, q1, fun hz => ?_, q3⟩
  obtain ⟨o, e2, p1, p2, p3⟩ := q2 hz
  exact ⟨o, e2, by omega, p2, p3⟩
theorem OwnSS.nil (w : World) (base hi : Nat) (A : Option Addr) : OwnSS w base hi A [] := fun h => absurd h (by simp)
end

/-- the marks of a list of rows, from k on -/
def iotaSS (k : Int) : List (List Int) → List (List Int)
  | [] => []
  | r :: l => iota k r.length :: iotaSS (k + r.length) l
theorem iotaSS_length : ∀ (k : Int) (rs : List (List Int)), (iotaSS k rs).length = rs.length
  | _, [] => rfl
  | k, r :: l => by simp [iotaSS, iotaSS_length (k + r.length) l]
theorem iotaSS_at : ∀ (k : Int) (rs : List (List Int)) (i : Nat) (r : List Int), rs[i]? = some r → (iotaSS k rs)[i]? = some (iota (k + lens (rs.take i)) r.length)
  | k, s :: l, 0, r, h => by
    simp only [List.getElem?_cons_zero, Option.some.injEq] at h
    subst h
    simp [iotaSS, lens]
  | k, s :: l, i + 1, r, h => by
    rw [List.getElem?_cons_succ] at h
    rw [iotaSS, List.getElem?_cons_succ, iotaSS_at (k + s.length) l i r h, List.take_succ_cons, lens]
    congr 2
    omega
theorem iotaSS_lens : ∀ (k : Int) (rs : List (List Int)), lens (iotaSS k rs) = lens rs
  | _, [] => rfl
  | k, r :: l => by simp [iotaSS, lens, iota_length, iotaSS_lens (k + r.length) l]
/-- the first j rows marked -/
def markTo (k : Int) (rs : List (List Int)) (j : Nat) : List (List Int) := (iotaSS k rs).take j ++ rs.drop j
theorem markTo_zero (k : Int) (rs : List (List Int)) : markTo k rs 0 = rs := by simp [markTo]
theorem markTo_all (k : Int) (rs : List (List Int)) {j : Nat} (h : rs.length ≤ j) : markTo k rs j = iotaSS k rs := by
  rw [markTo, List.take_of_length_le (by rw [iotaSS_length]; exact h), List.drop_of_length_le h, List.append_nil]
theorem markTo_len (k : Int) (rs : List (List Int)) (j : Nat) (h : j ≤ rs.length) : (markTo k rs j).length = rs.length := by
  simp [markTo, iotaSS_length]
  omega
theorem markTo_at (k : Int) (rs : List (List Int)) {j : Nat} {r : List Int} (h : rs[j]? = some r) : (markTo k rs j)[j]? = some r := by
  have hj : j < rs.length := (List.getElem?_eq_some_iff.1 h).1
  have hl : ((iotaSS k rs).take j).length = j := by simp [iotaSS_length]; omega
  rw [markTo, List.getElem?_append_right (by omega), hl, Nat.sub_self, List.getElem?_drop, Nat.add_zero, h]
theorem markTo_set (k : Int) (rs : List (List Int)) {j : Nat} {r : List Int} (h : rs[j]? = some r) : (markTo k rs j).set j (iota (k + lens (rs.take j)) r.length) = markTo k rs (j + 1) := by
  have hj : j < rs.length := (List.getElem?_eq_some_iff.1 h).1
  have hl : ((iotaSS k rs).take j).length = j := by simp [iotaSS_length]; omega
  rw [markTo, markTo, List.set_append_right _ _ (by omega), hl, Nat.sub_self, List.take_add_one, iotaSS_at k rs j r h, List.append_assoc]
  congr 1
  rw [List.drop_eq_getElem_cons hj]
  rfl
set_option maxHeartbeats 400000 in
theorem OwnSS.row {w : World} {base hi : Nat} {A : Option Addr} {rs : List (List Int)} (h : OwnSS w base hi A rs) {j : Nat} {r : List Int} (hr : rs[j]? = some r) :
    ∃ (g off : Nat) (Aj : Option Addr) (cj : Nat), A = some ⟨g, off, none⟩ ∧ base ≤ g ∧ g < w.heap.size ∧ hi ≤ w.heap.size ∧ w.cell? ⟨g, off + j, none⟩ = some (.slice Aj r.length cj) ∧ OwnI w base Aj r ∧
      (r.length = 0 → ∀ r', r'.length = 0 → OwnSS w base hi A (rs.set j r')) ∧
      ∀ (w' : World) (r' : List Int), 0 < r.length → r'.length = r.length → Turned w w' Aj → OwnI w' base Aj r' → OwnSS w' base hi A (rs.set j r') ∧ Moves base hi w w' := by
  have hj : j < rs.length := (List.getElem?_eq_some_iff.1 hr).1
  obtain ⟨g, off, G, rfl, h2, h3, h4, h5, h6⟩ := h (by omega)
  obtain ⟨Aj, cj, q1, q2, q3⟩ := h5 j r hr
  refine ⟨g, off, Aj, cj, rfl, h2, by omega, h4, q1, fun hz => ?_, fun hz r' hr' _ => ?_, fun w' r' hz hl ht ho => ?_⟩
  · obtain ⟨o, e2, p1, p2, p3⟩ := q2 hz
    exact ⟨G j, o, e2, p1, by omega, p3⟩
  · refine ⟨g, off, G, rfl, h2, h3, h4, fun i s hs => ?_, fun a b ha hb => h6 a b (by simpa using ha) (by simpa using hb)⟩
    by_cases e : i = j
    · subst e
      rw [List.getElem?_set_self hj] at hs
      injection hs with hs
      subst hs
      exact ⟨Aj, cj, by rw [q1, hz, hr'], OwnR.none_ hr', q3⟩
    · rw [List.getElem?_set_ne (Ne.symm e)] at hs
      exact h5 i s hs
  · obtain ⟨o, e2, p1, p2, p3⟩ := q2 hz
    subst e2
    have hkeep : ∀ k, k < w.heap.size → k ≠ G j → w'.heap[k]? = w.heap[k]? := fun k hk hne => ht.block k hk fun o2 e => by
      injection e with e
      injection e with e
      omega
    refine ⟨fun _ => ⟨g, off, G, rfl, h2, h3, by rw [ht.size]; exact h4, fun i s hs => ?_, fun a b ha hb => h6 a b (by simpa using ha) (by simpa using hb)⟩,
      ⟨ht.os, ht.tape, ht.output, Nat.le_of_eq ht.size.symm, fun k hk hne => hkeep k hk (by omega)⟩⟩
    by_cases e : i = j
    · subst e
      rw [List.getElem?_set_self hj] at hs
      injection hs with hs
      subst hs
      refine ⟨_, cj, ((World.cell?_of_block (a := ⟨g, off + i, none⟩) (hkeep g (by omega) (Ne.symm q3))).trans q1).trans (by rw [hl]), fun hz' => ?_, q3⟩
      obtain ⟨g2, o2, e3, s1, s2, s3⟩ := ho hz'
      injection e3 with e3
      injection e3 with e4 e5
      subst e4
      subst e5
      exact ⟨_, rfl, p1, p2, s3⟩
    · rw [List.getElem?_set_ne (Ne.symm e)] at hs
      have hil : i < rs.length := (List.getElem?_eq_some_iff.1 hs).1
      obtain ⟨Ai, ci, s1, s2, s3⟩ := h5 i s hs
      refine ⟨Ai, ci, (World.cell?_of_block (a := ⟨g, off + i, none⟩) (hkeep g (by omega) (Ne.symm q3))).trans s1, ?_, s3⟩
      by_cases hz' : 0 < s.length
      · obtain ⟨o2, e3, t1, t2, _⟩ := s2 hz'
        exact s2.keep (hkeep (G i) (by omega) (h6 i j hil hj e))
      · exact OwnR.none_ (by omega)

set_option maxHeartbeats 400000 in
theorem markIntS_nil (A : Option Addr) (c : Nat) (k : Int) (w : World) : Calls Try.prog 22 #[.slice A 0 c, .int .i64 k] w fun e w' => e = .returned (.int .i64 k) ∧ w = w' := by
  go_enter Try.func22, Try.ntmps22
  go_wp2
  go_loop [1, 5] (fun m i => i = .int .i64 0 ∧ m = .int .i64 k) (fun _ _ => 0)
  case atStart => exact ⟨rfl, rfl⟩
  case round =>
    obtain ⟨rfl, rfl⟩ := hrel
    go_wp2
    go_ret
    exact ⟨rfl, rfl⟩
set_option maxHeartbeats 1000000 in
theorem markSS_own (A : Option Addr) (c base hi : Nat) (rs : List (List Int)) (k : Int) (w : World) (hn : rs.length ≤ 1048576) (hl : lens rs ≤ 1048576) (h0 : 0 ≤ k) (h1 : k ≤ 1048576) (hO : OwnSS w base hi A rs) :
    Calls Try.prog 21 #[.slice A rs.length c, .int .i64 k] w fun e w' => e = .returned (.int .i64 (k + lens rs)) ∧ OwnSS w' base hi A (iotaSS k rs) ∧ Moves base hi w w' := by
  have HO := Lib.hid hO
  clear hO
  go_enter Try.func21, Try.ntmps21
  go_wp2
  go_loopw [1, 5] (fun m i wr => ∃ j : Nat, j ≤ rs.length ∧ i = .int .i64 j ∧ m = .int .i64 (k + (lens (rs.take j) : Int)) ∧ OwnSS wr base hi A (markTo k rs j) ∧ Moves base hi w wr) (fun _ i _ => rs.length - (intOf i).toNat)
  case atStart => exact ⟨0, Nat.zero_le _, rfl, by simp [lens], by rw [markTo_zero]; exact HO.out, ⟨rfl, rfl, rfl, Nat.le_refl _, fun _ _ _ => rfl⟩⟩
  case round =>
    obtain ⟨j, hj, rfl, rfl, ho, hmv⟩ := hrel
    have HR := Lib.hid ho
    have HM := Lib.hid hmv
    have hle := lens_take_le rs j
    clear ho hmv
    by_cases hlt : j < rs.length
    · have hrj : rs[j]? = some rs[j] := List.getElem?_eq_getElem hlt
      obtain ⟨r, hr⟩ : ∃ r, rs[j]? = some r := ⟨_, hrj⟩
      clear hrj
      obtain ⟨g, off, Aj, cj, rfl, hg, hgl, hhi, hcl, hoi, hemp, hset⟩ := HR.out.row (markTo_at k rs hr)
      have hrl := len_le_lens hr
      have hsn := lens_snoc hr
      have HT := Lib.hid (markTo_set k rs hr)
      have hi0 : (0 : Int) ≤ (j : Int) := Int.natCast_nonneg _
      have hi1 : (j : Int) < (rs.length : Int) := by omega
      have hk0 : (0 : Int) ≤ k + (lens (rs.take j) : Int) := by omega
      have hk1 : k + (lens (rs.take j) : Int) ≤ 1099511627776 := by omega
      have HSN := Lib.hid (show k + (lens (rs.take j) : Int) + r.length = k + (lens (rs.take (j + 1)) : Int) by omega)
      have hr6 : r.length ≤ 1048576 := by omega
      have HI := Lib.hid hoi
      have HS := Lib.hid hset
      have HE := Lib.hid hemp
      clear hr hsn hoi hset hemp hle hrl
      by_cases hz : 0 < r.length
      · go_wp2_with fail
        refine (markIntS_any _ _ base r _ _ hr6 hk0 hk1 HI.out).mono ?_
        rintro e w2 ⟨rfl, ho2, ht2, _⟩
        obtain ⟨hs1, hs2⟩ := HS.out w2 _ hz (iota_length _ _) ht2 ho2
        rw [HT.out] at hs1
        have HS1 := Lib.hid hs1
        have HM2 : Hid (Moves base hi w w2) := Lib.hid ⟨hs2.os.trans HM.out.os, hs2.tape.trans HM.out.tape, hs2.output.trans HM.out.output, Nat.le_trans HM.out.size hs2.size, fun i hi2 ho => (hs2.block i (Nat.lt_of_lt_of_le hi2 HM.out.size) ho).trans (HM.out.block i hi2 ho)⟩
        clear hs1 hs2 ht2 ho2 hcl
        go_wp2
        exact ⟨⟨j + 1, by omega, by go_num, by rw [HSN.out], HS1.out, HM2.out⟩, by simp [intOf]; omega⟩
      · have hz0 : r.length = 0 := by omega
        have hs1 := HE.out hz0 (iota (k + (lens (rs.take j) : Int)) r.length) (by rw [iota_length]; exact hz0)
        rw [HT.out] at hs1
        have HS1 := Lib.hid hs1
        have HZ := Lib.hid hz0
        rw [hz0] at hcl
        have HSN2 := Lib.hid (show k + (lens (rs.take j) : Int) = k + (lens (rs.take (j + 1)) : Int) by have := HSN.out; omega)
        clear hs1 hz0 hz
        go_wp2_with fail
        refine (markIntS_nil _ _ _ _).mono ?_
        rintro e w2 ⟨rfl, rfl⟩
        go_wp2
        exact ⟨⟨j + 1, by omega, by go_num, by rw [HSN2.out], HS1.out, HM.out⟩, by simp [intOf]; omega⟩
    · have hr2 := HR.out
      rw [markTo_all k rs (by omega)] at hr2
      have HR2 := Lib.hid hr2
      have HLL := Lib.hid (show lens (rs.take j) = lens rs by rw [List.take_of_length_le (by omega)])
      clear hr2
      go_wp2
      go_ret
      exact ⟨ret_intE (by rw [HLL.out]), HR2.out, HM.out⟩
set_option maxHeartbeats 1000000 in
theorem heldSS_any (A : Option Addr) (c B : Nat) (rs : List (List Int)) (k : Int) (w : World) (hn : rs.length ≤ 1048576) (hl : lens rs ≤ 1048576) (h0 : 0 ≤ k) (h1 : k ≤ 1048576) (hS : IntSS w B A (iotaSS k rs)) :
    Calls Try.prog 30 #[.slice A rs.length c, .int .i64 k] w fun e w' => e = .returned (.int .i64 (k + lens rs)) ∧ w = w' := by
  have HS := Lib.hid hS
  have HL := Lib.hid (iotaSS_length k rs)
  clear hS
  go_enter Try.func30, Try.ntmps30
  go_wp2
  go_loop [1, 5] (fun m i => ∃ j : Nat, j ≤ rs.length ∧ i = .int .i64 j ∧ m = .int .i64 (k + (lens (rs.take j) : Int))) (fun _ i => rs.length - (intOf i).toNat)
  case atStart => exact ⟨0, Nat.zero_le _, rfl, by simp [lens]⟩
  case round =>
    obtain ⟨j, hj, rfl, rfl⟩ := hrel
    have hle := lens_take_le rs j
    by_cases hlt : j < rs.length
    · obtain ⟨r, hr⟩ : ∃ r, rs[j]? = some r := ⟨_, List.getElem?_eq_getElem hlt⟩
      obtain ⟨b, off, r2, Aj, cj, rfl, hb, hr2, hcl, hri⟩ := HS.out.at_ (k := j) (by rw [HL.out]; exact hlt)
      rw [iotaSS_at k rs j r hr] at hr2
      injection hr2 with hr2
      subst hr2
      rw [iota_length] at hcl
      have hrl := len_le_lens hr
      have hsn := lens_snoc hr
      have hi0 : (0 : Int) ≤ (j : Int) := Int.natCast_nonneg _
      have hi1 : (j : Int) < (rs.length : Int) := by omega
      have hk0 : (0 : Int) ≤ k + (lens (rs.take j) : Int) := by omega
      have hk1 : k + (lens (rs.take j) : Int) ≤ 1099511627776 := by omega
      have HSN := Lib.hid (show k + (lens (rs.take j) : Int) + r.length = k + (lens (rs.take (j + 1)) : Int) by omega)
      have hr6 : r.length ≤ 1048576 := by omega
      have t0 : decide (k + (lens (rs.take j) : Int) + (r.length : Int) < 0) = false := decide_eq_false (by omega)
      have HI := Lib.hid hri
      clear hr hsn hri hle hrl
      go_wp2_with fail
      refine (heldIntS_any _ _ _ B _ _ hr6 hk0 hk1 HI.out).mono ?_
      rintro e w2 ⟨rfl, rfl⟩
      go_wp2
      exact ⟨⟨j + 1, by omega, by go_num, by rw [HSN.out]⟩, by simp [intOf]; omega⟩
    · have HLL := Lib.hid (show lens (rs.take j) = lens rs by rw [List.take_of_length_le (by omega)])
      go_wp2
      go_ret
      exact ⟨ret_intE (by rw [HLL.out]), rfl⟩
theorem IntSS.wide {w : World} {B B' : Nat} {A : Option Addr} {rs : List (List Int)} (h : IntSS w B A rs) (hB : B ≤ B') : IntSS w B' A rs := h.keep (fun _ _ => rfl) hB
/-- rows are handed back, wherever they lie -/
def GivesRows (w : World) (rs : List (List Int)) (e : Ending) (w' : World) : Prop :=
  ∃ (A : Option Addr) (c : Nat), e = .returned (.slice A rs.length c) ∧ IntSS w' w'.heap.size A rs ∧ Below w.heap.size w w'
/-- rows, new memory, are handed back -/
def GivesSS (w : World) (rs : List (List Int)) (e : Ending) (w' : World) : Prop :=
  ∃ (A : Option Addr) (c : Nat), e = .returned (.slice A rs.length c) ∧ OwnSS w' w.heap.size w'.heap.size A rs ∧ Below w.heap.size w w'
end Go.Proofs.Ytkmbdclhjdbhpab
