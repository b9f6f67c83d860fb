/- The program's reducing: valence, fire, payDebts. -/
import Derived.Test.YtcfhkaefjhcglaaRdQ
namespace Go.Proofs.Ytcfhkaefjhcglaa
open Go.RowKit

theorem nets_neg {v : Nat} : ∀ {es : List (Int × Int)}, (∀ e ∈ es, e.1 < e.2) → (∃ e ∈ es, (v : Int) = e.1 ∨ (v : Int) = e.2) → nets (v : Int) v es ≤ -1
  | [], _, ⟨e, he, _⟩ => by simp at he
  | e :: l, h, ⟨x, hx, hv⟩ => by
    have h1 := h e (by simp)
    have h2 := (nets_self v l (fun x hx => h x (by simp [hx]))).2
    have key : net (v : Int) v e ≤ 0 := by
      unfold net ind
      repeat' split
      all_goals omega
    rw [List.mem_cons] at hx
    rw [nets]
    rcases hx with rfl | hx
    · have : net (v : Int) v x ≤ -1 := by
        unfold net ind
        repeat' split
        all_goals omega
      omega
    · have ih := nets_neg (es := l) (fun x hx => h x (by simp [hx])) ⟨x, hx, hv⟩
      omega
theorem val_pos {M : Nat} {es : List (Int × Int)} {v q : Nat} (hc : Cut M es) (hes : ∀ e ∈ es, 0 ≤ e.1 ∧ e.1 < e.2 ∧ e.2 < (M : Int)) (hv : v < M) (hq : q < M) (hne : v ≠ q) : nets (v : Int) v es ≤ -1 := by
  refine nets_neg (fun e he => (hes e he).2.1) ?_
  obtain ⟨e, he, h⟩ := hc (fun x => decide (x = (v : Int))) ⟨(v : Int), by omega, by omega, by simp⟩ ⟨(q : Int), by omega, by omega, by simp; omega⟩
  refine ⟨e, he, ?_⟩
  by_cases h1 : e.1 = (v : Int)
  · exact .inl h1.symm
  · by_cases h2 : e.2 = (v : Int)
    · exact .inr h2.symm
    · simp [h1, h2] at h
theorem net_self {v : Nat} {e : Int × Int} (h : e.1 < e.2) : net (v : Int) v e = if (v : Int) = e.1 ∨ (v : Int) = e.2 then -1 else 0 := by
  unfold net ind
  repeat' split
  all_goals omega
set_option maxRecDepth 100000 in
set_option maxHeartbeats 2000000 in
theorem valence_any (pb cA v B : Nat) (A : Option Addr) (G : Value) (es : List (Int × Int)) (w : World) (hBw : B ≤ w.heap.size) (hn : es.length ≤ 12) (hes : ∀ e ∈ es, e.1 < e.2) (hB : Blk w pb 69 #[.slice A es.length cA, G]) (hE : EdgeS w B A es) :
    Calls Try.prog 127 #[.pointer (some ⟨pb, 0, none⟩), .int .i64 (v : Int)] w fun e w' => e = .returned (.int .i64 (-nets (v : Int) v es)) ∧ Below w.heap.size w w' := by
  have q0 : w.cell? ⟨pb, 0, none⟩ = some (.slice A es.length cA) := by rw [hB.cell]; rfl
  have HE := Lib.hid hE
  have HES := Lib.hid hes
  clear hE hes hB
  go_enter Try.func127, Try.ntmps127
  go_wp2
  go_loopw [5, 13] (fun n i wr => ∃ k : Nat, k ≤ es.length ∧ i = .int .i64 k ∧ n = .int .i64 (-nets (v : Int) v (es.take k)) ∧ Below w.heap.size w wr) (fun _ i _ => es.length - (intOf i).toNat)
  case atStart => exact ⟨0, Nat.zero_le _, rfl, by simp [nets], Below.refl _ _⟩
  case round =>
    obtain ⟨k, hk, rfl, rfl, hb⟩ := hrel
    have HB := Lib.hid hb
    have hbw := hb.size
    clear hb q0
    by_cases hlt : k < es.length
    · obtain ⟨b1, o1, e, rfl, hb1, he, hc0, hc1⟩ := (HE.out.keep (fun p hp => HB.out.cell (by omega)) (Nat.le_refl _)).at_ hlt
      have hlt2 := HES.out e (List.mem_of_getElem? he)
      have hi0 : (0 : Int) ≤ (k : Int) := Int.natCast_nonneg _
      have hi1 : (k : Int) < (es.length : Int) := by omega
      have hns := nets_self v (es.take k) (fun x hx => HES.out x (List.mem_of_mem_take hx))
      have hnk : (es.take k).length ≤ 12 := by rw [List.length_take]; omega
      have HN := Lib.hid ((nets_snoc (v : Int) v he).trans (by rw [net_self hlt2]))
      have HBA := Lib.hid (HB.out.alloc HB.out.size (Obj.cells #[.int .i64 e.1, .int .i64 e.2] 74))
      obtain ⟨x, hx⟩ : ∃ x, x = nets (v : Int) v (es.take k) := ⟨_, rfl⟩
      rw [← hx] at hns HN ⊢
      have hx0 : -12 ≤ x := by omega
      have hx1 : x ≤ 0 := hns.2
      have hx2 : 0 ≤ -x := by omega
      have hx3 : -x ≤ 12 := by omega
      clear hx he hns hnk hlt2
      by_cases h1 : e.1 = (v : Int)
      · have t1 : (e.1 == (v : Int)) = true := by simp [h1]
        have HN2 := Lib.hid (HN.out.trans (by rw [if_pos (.inl h1.symm)]))
        clear h1
        go_wp2
        exact ⟨⟨k + 1, by omega, by go_num, by rw [HN2.out]; congr 1; omega, HBA.out⟩, by simp [intOf]; omega⟩
      · have t1 : (e.1 == (v : Int)) = false := by simp [h1]
        by_cases h2 : e.2 = (v : Int)
        · have t2 : (e.2 == (v : Int)) = true := by simp [h2]
          have HN2 := Lib.hid (HN.out.trans (by rw [if_pos (.inr h2.symm)]))
          clear h1 h2
          go_wp2
          exact ⟨⟨k + 1, by omega, by go_num, by rw [HN2.out]; congr 1; omega, HBA.out⟩, by simp [intOf]; omega⟩
        · have t2 : (e.2 == (v : Int)) = false := by simp [h2]
          have HN2 := Lib.hid (HN.out.trans (by rw [if_neg (by omega)]))
          clear h1 h2
          go_wp2
          exact ⟨⟨k + 1, by omega, by go_num, by rw [HN2.out]; congr 1; omega, HBA.out⟩, by simp [intOf]; omega⟩
    · have HQ := Lib.hid (show es.take k = es from List.take_of_length_le (by omega))
      rw [HQ.out]
      go_wp2
      go_ret
      exact ⟨rfl, HB.out⟩

/-- the program's reduction: its box, its board, the chips and the script -/
structure RdI (wr : World) (B pr pb g cg gs M q : Nat) (A : Option Addr) (cA : Nat) (es : List (Int × Int)) (d : List Int) (f : Nat → Int) : Prop where
  red : Blk wr pr 78 #[.pointer (some ⟨pb, 0, none⟩), .int .i64 (q : Int), .slice (some ⟨gs, 0, none⟩) M M]
  brd : Blk wr pb 69 #[.slice A es.length cA, .slice (some ⟨g, 0, none⟩) M cg]
  chips : Chips wr g (chipsOf M (Dv d es f))
  scr : Chips wr gs (chipsOf M f)
/-- where its blocks lie -/
structure RdN (B pr pb g gs : Nat) : Prop where
  n1 : B ≤ g
  n2 : B ≤ gs
  n3 : B ≤ pb
  n4 : B ≤ pr
  e1 : g ≠ gs
  e2 : g ≠ pb
  e3 : g ≠ pr
  e4 : gs ≠ pb
  e5 : gs ≠ pr
theorem RdI.below {wr w2 : World} {B pr pb g cg gs M q : Nat} {A : Option Addr} {cA : Nat} {es : List (Int × Int)} {d : List Int} {f : Nat → Int} (h : RdI wr B pr pb g cg gs M q A cA es d f) (hb : Below wr.heap.size wr w2) : RdI w2 B pr pb g cg gs M q A cA es d f :=
  ⟨h.red.below hb h.red.lt, h.brd.below hb h.brd.lt, h.chips.below hb, h.scr.below hb⟩
set_option maxRecDepth 100000 in
set_option maxHeartbeats 2000000 in
theorem fireR_any (B pr pb g cg gs M q v : Nat) (A : Option Addr) (cA : Nat) (es : List (Int × Int)) (d : List Int) (f : Nat → Int) (t : Int) (w : World) (hBw : B ≤ w.heap.size) (hv : v < M) (hn : es.length ≤ 12) (hes : ∀ e ∈ es, 0 ≤ e.1 ∧ e.1 < e.2 ∧ e.2 < (M : Int)) (hE : EdgeS w B A es) (hN : RdN B pr pb g gs) (hR : RdI w B pr pb g cg gs M q A cA es d f) :
    Calls Try.prog 128 #[.pointer (some ⟨pr, 0, none⟩), .int .i64 (v : Int), .int .i64 t] w fun e w' => e = .returned (.tuple #[]) ∧ RdI w' B pr pb g cg gs M q A cA es d (addAt f v t) ∧ Below B w w' ∧ (∀ i, i < w.heap.size → i ≠ g → i ≠ gs → w'.heap[i]? = w.heap[i]?) := by
  have q2 : w.cell? ⟨pr, 2, none⟩ = some (.slice (some ⟨gs, 0, none⟩) M M) := by rw [hR.red.cell]; rfl
  have q0 : w.cell? ⟨pr, 0, none⟩ = some (.pointer (some ⟨pb, 0, none⟩)) := by rw [hR.red.cell]; rfl
  obtain ⟨d0, f0⟩ := hR.scr.cell v _ (chipsOf_at f hv)
  have hC1 := hR.scr.set_ (a := v) (by rw [chipsOf_len]; exact hv) (wrap64 (wrap64 (f v) + t))
  rw [chipsOf_set M f v _ t (wrap64_addL _ _)] at hC1
  have hm1 : Moves gs (gs + 1) w (w.setCell ⟨gs, v, none⟩ (.int .i64 (wrap64 (wrap64 (f v) + t)))) := (Moves.refl _ _ _).set_ v _
  have hN1 := hN.e1
  have hN2 := hN.e2
  have hN3 := hN.e3
  have hN4 := hN.e4
  have hN5 := hN.e5
  have hr1 := hR.red.moves hm1 (by omega)
  have hb1 := hR.brd.moves hm1 (by omega)
  have hc1 := hR.chips.moves hm1 (by omega)
  have hbl1 := hm1.below hN.n2 hBw
  have hsz : B ≤ (w.setCell ⟨gs, v, none⟩ (.int .i64 (wrap64 (wrap64 (f v) + t)))).heap.size := by simp [World.setCell]; exact hBw
  have hE1 := hE.keep (fun p hp => hbl1.cell (by omega)) (Nat.le_refl _)
  have FR := Lib.hid (fire_any pb g M cg cA B A es (Dv d es f) (v : Int) t _ (Ne.symm hN2) hN.n1 hsz hn hes hb1 hc1 hE1)
  have HF : Hid (chipsOf M (fireF (Dv d es f) (v : Int) t es) = chipsOf M (Dv d es (addAt f v t))) := Lib.hid (chipsOf_eq fun u _ => by rw [Dv_addAt d f v t u (fun e he => ⟨(hes e he).1, (hes e he).2.1⟩), fireF])
  have p0 : (w.setCell ⟨gs, v, none⟩ (.int .i64 (wrap64 (wrap64 (f v) + t)))).cell? ⟨pr, 0, none⟩ = some (.pointer (some ⟨pb, 0, none⟩)) := by rw [hr1.cell]; rfl
  have hv0 : (0 : Int) ≤ (v : Int) := Int.natCast_nonneg _
  have hv1 : (v : Int) < (M : Int) := by omega
  have HR1 := Lib.hid hr1
  have HB1 := Lib.hid hb1
  have HC1 := Lib.hid hC1
  have HBL := Lib.hid hbl1
  have HSZ := Lib.hid hsz
  have HNN := Lib.hid hN
  have HMV := Lib.hid hm1
  clear hr1 hb1 hc1 hC1 hbl1 hsz hm1 hE1 hE hR hN hN1 hN2 hN3 hN4 hN5 hes q0
  have hn1 := HNN.out.e5
  go_enter Try.func128, Try.ntmps128
  go_wp2_with fail
  refine FR.out.mono ?_
  rintro e w2 ⟨rfl, hc2, hm2⟩
  rw [HF.out] at hc2
  have a1 := HNN.out.e1
  have a2 := HNN.out.e2
  have a3 := HNN.out.e3
  have HR2 := Lib.hid (show RdI w2 B pr pb g cg gs M q A cA es d (addAt f v t) from ⟨HR1.out.moves hm2 (by omega), HB1.out.moves hm2 (by omega), hc2, HC1.out.moves hm2 (by omega)⟩)
  have HB2 := Lib.hid (belowMoves HBL.out hm2 HNN.out.n1 HSZ.out)
  have HK2 := Lib.hid (show ∀ i, i < w.heap.size → i ≠ g → i ≠ gs → w2.heap[i]? = w.heap[i]? from fun i hi h1 h2 => (hm2.block i (Nat.lt_of_lt_of_le hi HMV.out.size) (by omega)).trans (HMV.out.block i hi (by omega)))
  clear hc2 hm2 a1 a2 a3
  go_wp2
  go_end0
  exact ⟨rfl, HR2.out, HB2.out, HK2.out⟩
end Go.Proofs.Ytcfhkaefjhcglaa
