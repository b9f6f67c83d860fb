/- The graph that has only some edges: both sides. -/
import Derived.Test.YtdpojcgeblbfeaaVTreP
import Derived.Test.YtdpojcgeblbfeaaVBM
import Derived.Test.YtdpojcgeblbfeaaVBC
import Derived.Test.YtdpojcgeblbfeaaVBB
import Derived.Test.YtdpojcgeblbfeaaVBD
set_option linter.all false
namespace Go.Proofs.Ytdpojcgeblbfeaa
open Go.RowKit

theorem part_take {es : List (Int × Int)} {T : List Int} {j : Nat} {x : Int} (h : T[j]? = some x) : partL es (T.take (j + 1)) = partL es (T.take j) ++ [es.getD x.toNat (0, 0)] := by
  unfold partL
  rw [List.take_add_one, h, List.map_append]
  rfl
theorem part_len (es : List (Int × Int)) (T : List Int) : (partL es T).length = T.length := by simp [partL]
theorem part_edges {M : Nat} {es : List (Int × Int)} {T : List Int} (hB : edgesB (M : Int) es = true) (ht : T.length ≤ 12) (hT : ∀ i ∈ T, 0 ≤ i ∧ i < (es.length : Int)) : edgesB (M : Int) (partL es T) = true := by
  obtain ⟨h1, h2, h3⟩ := edgesB_lims hB
  have hm : ∀ e ∈ partL es T, 0 ≤ e.1 ∧ e.1 < e.2 ∧ e.2 < (M : Int) := fun e he => by
    obtain ⟨i, hi, rfl⟩ := List.mem_map.1 he
    have := hT i hi
    exact all_edge hB (by simp [List.getD, show i.toNat < es.length by omega])
  rw [edgesB, Bool.and_eq_true, Bool.and_eq_true, Bool.and_eq_true, decide_eq_true_eq, decide_eq_true_eq, decide_eq_true_eq, part_len, List.all_eq_true]
  exact ⟨⟨⟨h1, h2⟩, ht⟩, fun e he => by have := hm e he; simp [edgeOk]; omega⟩
theorem own_sle {w : World} {base n size : Nat} {t : TypeId} {v : Value} {xs : List Value} (h : w.ownsRow base t size v n xs) : ∃ (A : Option Addr) (k c : Nat), v = .slice A k c := by
  rcases h.2 with ⟨e, _⟩ | ⟨g, cap, cur, e, _⟩
  · exact ⟨none, 0, 0, e⟩
  · exact ⟨_, _, _, e⟩
structure PartI (w W0 wr : World) (h : Nat) (A : Option Addr) (c M : Nat) (es : List (Int × Int)) (V : Value) (l : List (Int × Int)) : Prop where
  g : Blk wr w.heap.size 25 #[.int .i64 (M : Int), .slice A es.length c]
  hx : Blk wr h 25 #[.int .i64 (M : Int), V]
  own : wr.ownsRow (h + 1) 121 2 V l.length (flat l)
  old : Below w.heap.size w wr
  lo : w.heap.size < h
  kp : ∀ k, k < h → wr.heap[k]? = W0.heap[k]?
theorem PartI.push {w W0 wr w1 w2 : World} {h c M : Nat} {A : Option Addr} {es : List (Int × Int)} {V v' : Value} {l : List (Int × Int)} {a b : Int} (hI : PartI w W0 wr h A c M es V l) (hb : Below wr.heap.size wr w1)
    (ho : w2.ownsRow (h + 1) 121 2 v' (l.length + 1) (flat l ++ [.int .i64 a, .int .i64 b])) (hg : w1.grownBy w2 V.ownBlock) : PartI w W0 (w2.setCell ⟨h, 1, none⟩ v') h A c M es v' (l ++ [(a, b)]) := by
  have hlt := hI.own.lt
  have hs := hI.old.size
  have hne : ∀ k, k ≤ h → some k ≠ V.ownBlock := fun k hk e => by have := (hlt k e.symm).1; omega
  have hg1 := hI.g.below hb hI.g.lt
  have hh1 := hI.hx.below hb hI.hx.lt
  have hlo := hI.lo
  refine ⟨(Blk.grown hg1 hg fun e => hne _ (Nat.le_of_lt hlo) e.symm).far (by simp only; omega) _, (Blk.grown hh1 hg fun e => hne _ (Nat.le_refl _) e.symm).set_ 1 v', ?_, ?_, hlo, fun k hk => ?_⟩
  · have e : (l ++ [(a, b)]).length = l.length + 1 := by simp
    rw [flat_app, e]
    exact own_set (X := h) (o := 1) (u := v') ho (Nat.lt_succ_self _)
  · refine Below.setCell (B := w.heap.size) ?_ (p := ⟨h, 1, none⟩) (Nat.le_of_lt hlo) v'
    exact (hI.old.trans (hb.mono hs)).grown hg (Nat.le_trans hs hb.size) fun q hq => by have := (hlt q hq).1; omega
  · have hk2 : k < wr.heap.size := by have := hI.hx.lt; omega
    exact (Below.heap_setCell _ _ _ _ (by simp only; omega)).trans ((hg.block k (Nat.lt_of_lt_of_le hk2 hb.size) (hne k (Nat.le_of_lt hk))).trans ((hb.block k hk2).trans (hI.kp k hk)))
set_option maxRecDepth 100000 in
set_option maxHeartbeats 4000000 in
theorem partOf_any (A D : Option Addr) (c cd M : Nat) (es : List (Int × Int)) (T : List Int) (w : World) (ht : T.length ≤ 12) (hT : ∀ i ∈ T, 0 ≤ i ∧ i < (es.length : Int)) (hE : EdgeS w w.heap.size A es) (hS : IntS w w.heap.size D T) :
    Calls Try.prog 82 #[.agg #[.int .i64 (M : Int), .slice A es.length c], .slice D T.length cd] w fun e w' => ∃ (F : Option Addr) (cf : Nat), e = .returned (.agg #[.int .i64 (M : Int), .slice F (partL es T).length cf]) ∧ EdgeS w' w'.heap.size F (partL es T) ∧ Below w.heap.size w w' := by
  obtain ⟨i0, hI, hz0, hz1, hz2⟩ := info_parts edgeInfo
  have HE := Lib.hid hE
  have HS := Lib.hid hS
  have HT := Lib.hid hT
  obtain ⟨W0, hW0⟩ : ∃ X : World, X = ((w.alloc (Obj.cells #[.int .i64 (M : Int), .slice A es.length c] 25)).alloc (Obj.cells #[.int .i64 0, .slice none 0 0] 25)).alloc (Obj.cells #[.int .i64 (M : Int), .slice none 0 0] 25) := ⟨_, rfl⟩
  have HI0 := Lib.hid (show PartI w W0 W0 (w.heap.size + 1 + 1) A c M es (.slice none 0 0) (partL es (T.take 0)) from by
    rw [hW0]
    refine ⟨((Blk.new w _ _).alloc _).alloc _, ?_, ⟨by simp [partL, flat], .inl ⟨rfl, by simp [partL]⟩⟩, (((Below.refl _ _).alloc (Nat.le_refl _) _).alloc (by simp) _).alloc (by simp; omega) _, by omega, fun _ _ => rfl⟩
    have h := Blk.new ((w.alloc (Obj.cells #[.int .i64 (M : Int), .slice A es.length c] 25)).alloc (Obj.cells #[.int .i64 0, .slice none 0 0] 25)) 25 #[.int .i64 (M : Int), .slice none 0 0]
    rw [World.size_alloc, World.size_alloc] at h
    exact h)
  clear hE hS hT
  go_enter Try.func82, Try.ntmps82
  go_wp2_with fail
  rw [← hW0]
  have HR0 := Lib.hid (show Blk W0 (w.heap.size + 1) 25 #[.int .i64 0, .slice none 0 0] from by
    rw [hW0]
    have h := (Blk.new (w.alloc (Obj.cells #[.int .i64 (M : Int), .slice A es.length c] 25)) 25 #[.int .i64 0, .slice none 0 0]).alloc (Obj.cells #[.int .i64 (M : Int), .slice none 0 0] 25)
    rwa [World.size_alloc] at h)
  clear hW0
  go_loopw [13] (fun i wr => ∃ (j : Nat) (V : Value), j ≤ T.length ∧ i = .int .i64 (j : Int) ∧ PartI w W0 wr (w.heap.size + 1 + 1) A c M es V (partL es (T.take j))) (fun i _ => T.length - (intOf i).toNat)
  case atStart => exact ⟨0, _, Nat.zero_le _, rfl, HI0.out⟩
  case round =>
    clear HI0
    obtain ⟨j, V, hj, rfl, hi⟩ := hrel
    have HI := Lib.hid hi
    have hpl : (partL es (T.take j)).length = j := by rw [part_len, List.length_take]; omega
    have HPL := Lib.hid hpl
    have hb := hi.old
    obtain ⟨x0, x1, x2, x3, x4⟩ := box_facts hi.g
    obtain ⟨y0, y1, y2, y3, y4⟩ := box_facts hi.hx
    by_cases hlt : j < T.length
    · obtain ⟨bt, ot, x, rfl, hbt, hx, hct⟩ := HS.out.at_ hlt
      have hxr := HT.out x (List.mem_of_getElem? hx)
      obtain ⟨be, oe, e, rfl, hbe, he, hc1, hc2⟩ := HE.out.at_ (k := x.toNat) (by omega)
      have hgd : es.getD x.toNat (0, 0) = (e.1, e.2) := by simp [List.getD, he]
      have HPS := Lib.hid (part_take (es := es) hx)
      rw [hgd] at HPS
      have hd1 : wr.cell? ⟨be, oe + x.toNat * 2, none⟩ = some (.int .i64 e.1) := (hb.cell (p := ⟨be, oe + x.toNat * 2, none⟩) hbe).trans hc1
      have hd2 : wr.cell? ⟨be, oe + x.toNat * 2 + 1, none⟩ = some (.int .i64 e.2) := (hb.cell (p := ⟨be, oe + x.toNat * 2 + 1, none⟩) hbe).trans hc2
      have hd3 : wr.cell? ⟨bt, ot + j, none⟩ = some (.int .i64 x) := (hb.cell (p := ⟨bt, ot + j, none⟩) hbt).trans hct
      have hj0 : (0 : Int) ≤ (j : Int) := Int.natCast_nonneg _
      have hj1 : (j : Int) < (T.length : Int) := by omega
      have hx0 := hxr.1
      have hx1 := hxr.2
      obtain ⟨e1, he1⟩ : ∃ z, z = e.1 := ⟨_, rfl⟩
      obtain ⟨e2, he2⟩ : ∃ z, z = e.2 := ⟨_, rfl⟩
      rw [← he1] at hd1 HPS
      rw [← he2] at hd2 HPS
      have hsz : w.heap.size + 1 + 1 + 1 ≤ wr.heap.size := by omega
      have hOW : (wr.drew.alloc (.cells #[.int .i64 e1, .int .i64 e2] 121)).ownsRow (w.heap.size + 1 + 1 + 1) 121 2 V (partL es (T.take j)).length (flat (partL es (T.take j))) := own_keep2 hi.own (fun g _ hg => Below.heap_alloc _ _ g hg)
      rw [hpl] at hOW
      have HOW := Lib.hid hOW
      have HBA := Lib.hid (show Below wr.heap.size wr (wr.drew.alloc (.cells #[.int .i64 e1, .int .i64 e2] 121)) from ((Below.refl _ _).drew).alloc (Nat.le_refl _) _)
      have HC := Lib.hid (fun (g : Nat) (hg : g = wr.drew.heap.size) => two_cells wr.drew g hg 121 (.int .i64 e1) (.int .i64 e2))
      have n3 : j + 1 ≤ maxLen := by unfold maxLen; omega
      have n4 : (j + 1) * 16 ≤ 140737488355328 := by omega
      have n5 : w.heap.size + 1 + 1 + 1 ≤ (wr.drew.alloc (.cells #[.int .i64 e1, .int .i64 e2] 121)).heap.size := by simp; omega
      have HU := Lib.hid (show ∀ u ∈ [Value.int .i64 e1, Value.int .i64 e2], u.oneCell' = true from by
        intro u hu
        simp only [List.mem_cons, List.not_mem_nil, or_false] at hu
        rcases hu with rfl | rfl <;> rfl)
      have HW := Lib.hid (fun (v' : Value) (w2 : World) (ho : w2.ownsRow (w.heap.size + 1 + 1 + 1) 121 2 v' (j + 1) (flat (partL es (T.take j)) ++ [.int .i64 e1, .int .i64 e2])) (hg : (wr.drew.alloc (.cells #[.int .i64 e1, .int .i64 e2] 121)).grownBy w2 V.ownBlock) =>
        show PartI w W0 (w2.setCell ⟨w.heap.size + 1 + 1, 1, none⟩ v') (w.heap.size + 1 + 1) (some ⟨be, oe, none⟩) c M es v' (partL es (T.take (j + 1))) ∧ (w2.cell? ⟨w.heap.size + 1 + 1, 1, none⟩ = some V ∧ w2.frozen? ⟨w.heap.size + 1 + 1, 1, none⟩ = false) from by
          have hb2 := HBA.out
          have hh2 := Blk.grown (HI.out.hx.below hb2 HI.out.hx.lt) hg (fun e => by have := (HI.out.own.lt _ e).1; omega)
          obtain ⟨-, q1, -, q2, -⟩ := box_facts hh2
          refine ⟨?_, q1, q2⟩
          rw [HPS.out]
          exact HI.out.push hb2 (by rw [HPL.out]; exact ho) hg)
      have HJ := Lib.hid (show j + 1 ≤ T.length by omega)
      clear hi hb hpl hOW hxr hx he hgd he1 he2 hc1 hc2 hct
      go_wp2_with fail
      go_region_law (first
        | (refine step_append_ownD rfl (.tmp 18) (.tmp 24) 23 rfl (w.heap.size + 1 + 1 + 1) 121 i0 (.agg #[.int .i64 0, .int .i64 0]) 2 16 Try.underlying23 hI hz0 hz1 hz2 rfl (by decide) _ _ _ rfl HOW.out ⟨_, 0, none⟩ 1 1 [.int .i64 e1, .int .i64 e2] rfl rfl (HC.out _ rfl) HU.out n3 n4 n5 ?_
           intro v1 w2 hown1 hgrow1
           obtain ⟨A9, m9, c9, rfl⟩ := own_sle hown1
           obtain ⟨HPI, HQ1, HQ2⟩ := HW.out _ w2 hown1 hgrow1
           clear hown1 hgrow1))
      all_goals
        go_wp2
        exact ⟨⟨j + 1, _, HJ.out, by go_num, HPI⟩, by simp [intOf]; omega⟩
    · have hjT : j = T.length := by omega
      obtain ⟨F, cf, rfl, hoe, -⟩ := ownE_of hi.own
      have hne : ∀ (u v : Value), OwnE ((wr.setCell ⟨w.heap.size + 1, 0, none⟩ u).setCell ⟨w.heap.size + 1, 1, none⟩ v) (w.heap.size + 1 + 1 + 1) F (partL es (T.take j)) := fun u v => ownE_far hoe (by omega) u v
      have hTT : T.take j = T := by rw [hjT, List.take_length]
      have HOE := Lib.hid (hne (.int .i64 (M : Int)) (.slice F (partL es (T.take j)).length cf)).edges
      clear hne
      have HB := Lib.hid hb
      have HRB := Lib.hid (show Blk wr (w.heap.size + 1) 25 #[.int .i64 0, .slice none 0 0] from (hi.kp _ (by omega)).trans HR0.out)
      obtain ⟨r0, r1, r2, r3, r4⟩ := box_facts HRB.out
      rw [hTT] at HOE
      rw [hTT] at y1
      have hjl : ¬ ((j : Int) < (T.length : Int)) := by omega
      clear hi hb hjT hTT hoe hpl HPL HI
      go_wp2
      have hx4 := (HRB.out.set_ 0 (.int .i64 (M : Int))).set_ 1 (.slice F (partL es T).length cf)
      obtain ⟨z0, z1, -, -, -⟩ := box_facts hx4
      have hb4 : Below w.heap.size w ((wr.setCell ⟨w.heap.size + 1, 0, none⟩ (.int .i64 (M : Int))).setCell ⟨w.heap.size + 1, 1, none⟩ (.slice F (partL es T).length cf)) :=
        Below.setCell (B := w.heap.size) (HB.out.setCell (p := ⟨w.heap.size + 1, 0, none⟩) (Nat.le_succ _) _) (p := ⟨w.heap.size + 1, 1, none⟩) (Nat.le_succ _) _
      refine bodyPost_ret (v := .agg #[.int .i64 (M : Int), .slice F (partL es T).length cf]) (by simp [results, Try.results82, go_sem, z0, z1]) rfl ⟨F, ⟨cf, rfl⟩, HOE.out, hb4⟩
set_option maxRecDepth 100000 in
set_option maxHeartbeats 4000000 in
theorem joins_any (A D : Option Addr) (c cd M : Nat) (es : List (Int × Int)) (T : List Int) (w : World) (hB : edgesB (M : Int) es = true) (ht : T.length ≤ 12) (hT : ∀ i ∈ T, 0 ≤ i ∧ i < (es.length : Int)) (hE : EdgeS w w.heap.size A es) (hS : IntS w w.heap.size D T) :
    Calls Try.prog 79 #[.agg #[.int .i64 (M : Int), .slice A es.length c], .slice D T.length cd] w fun e w' => e = .returned (.bool (connB (M : Int) (partL es T))) ∧ Below w.heap.size w w' := by
  have HPB := Lib.hid (part_edges hB ht hT)
  clear hB
  obtain ⟨i0, hI, hz0, hz1, hz2⟩ := info_parts edgeInfo
  have HE := Lib.hid hE
  have HS := Lib.hid hS
  have HT := Lib.hid hT
  obtain ⟨W0, hW0⟩ : ∃ X : World, X = (w.alloc (Obj.cells #[.int .i64 (M : Int), .slice A es.length c] 25)).alloc (Obj.cells #[.int .i64 (M : Int), .slice none 0 0] 25) := ⟨_, rfl⟩
  have HI0 := Lib.hid (show PartI w W0 W0 (w.heap.size + 1) A c M es (.slice none 0 0) (partL es (T.take 0)) from by
    rw [hW0]
    refine ⟨(Blk.new w _ _).alloc _, ?_, ⟨by simp [partL, flat], .inl ⟨rfl, by simp [partL]⟩⟩, ((Below.refl _ _).alloc (Nat.le_refl _) _).alloc (by simp) _, by omega, fun _ _ => rfl⟩
    have h := Blk.new (w.alloc (Obj.cells #[.int .i64 (M : Int), .slice A es.length c] 25)) 25 #[.int .i64 (M : Int), .slice none 0 0]
    rw [World.size_alloc] at h
    exact h)
  clear hE hS hT
  go_enter Try.func79, Try.ntmps79
  go_wp2_with fail
  rw [← hW0]
  skip
  clear hW0
  go_loopw [13] (fun i wr => ∃ (j : Nat) (V : Value), j ≤ T.length ∧ i = .int .i64 (j : Int) ∧ PartI w W0 wr (w.heap.size + 1) A c M es V (partL es (T.take j))) (fun i _ => T.length - (intOf i).toNat)
  case atStart => exact ⟨0, _, Nat.zero_le _, rfl, HI0.out⟩
  case round =>
    clear HI0
    obtain ⟨j, V, hj, rfl, hi⟩ := hrel
    have HI := Lib.hid hi
    have hpl : (partL es (T.take j)).length = j := by rw [part_len, List.length_take]; omega
    have HPL := Lib.hid hpl
    have hb := hi.old
    obtain ⟨x0, x1, x2, x3, x4⟩ := box_facts hi.g
    obtain ⟨y0, y1, y2, y3, y4⟩ := box_facts hi.hx
    by_cases hlt : j < T.length
    · obtain ⟨bt, ot, x, rfl, hbt, hx, hct⟩ := HS.out.at_ hlt
      have hxr := HT.out x (List.mem_of_getElem? hx)
      obtain ⟨be, oe, e, rfl, hbe, he, hc1, hc2⟩ := HE.out.at_ (k := x.toNat) (by omega)
      have hgd : es.getD x.toNat (0, 0) = (e.1, e.2) := by simp [List.getD, he]
      have HPS := Lib.hid (part_take (es := es) hx)
      rw [hgd] at HPS
      have hd1 : wr.cell? ⟨be, oe + x.toNat * 2, none⟩ = some (.int .i64 e.1) := (hb.cell (p := ⟨be, oe + x.toNat * 2, none⟩) hbe).trans hc1
      have hd2 : wr.cell? ⟨be, oe + x.toNat * 2 + 1, none⟩ = some (.int .i64 e.2) := (hb.cell (p := ⟨be, oe + x.toNat * 2 + 1, none⟩) hbe).trans hc2
      have hd3 : wr.cell? ⟨bt, ot + j, none⟩ = some (.int .i64 x) := (hb.cell (p := ⟨bt, ot + j, none⟩) hbt).trans hct
      have hj0 : (0 : Int) ≤ (j : Int) := Int.natCast_nonneg _
      have hj1 : (j : Int) < (T.length : Int) := by omega
      have hx0 := hxr.1
      have hx1 := hxr.2
      obtain ⟨e1, he1⟩ : ∃ z, z = e.1 := ⟨_, rfl⟩
      obtain ⟨e2, he2⟩ : ∃ z, z = e.2 := ⟨_, rfl⟩
      rw [← he1] at hd1 HPS
      rw [← he2] at hd2 HPS
      have hsz : w.heap.size + 1 + 1 ≤ wr.heap.size := by omega
      have hOW : (wr.drew.alloc (.cells #[.int .i64 e1, .int .i64 e2] 121)).ownsRow (w.heap.size + 1 + 1) 121 2 V (partL es (T.take j)).length (flat (partL es (T.take j))) := own_keep2 hi.own (fun g _ hg => Below.heap_alloc _ _ g hg)
      rw [hpl] at hOW
      have HOW := Lib.hid hOW
      have HBA := Lib.hid (show Below wr.heap.size wr (wr.drew.alloc (.cells #[.int .i64 e1, .int .i64 e2] 121)) from ((Below.refl _ _).drew).alloc (Nat.le_refl _) _)
      have HC := Lib.hid (fun (g : Nat) (hg : g = wr.drew.heap.size) => two_cells wr.drew g hg 121 (.int .i64 e1) (.int .i64 e2))
      have n3 : j + 1 ≤ maxLen := by unfold maxLen; omega
      have n4 : (j + 1) * 16 ≤ 140737488355328 := by omega
      have n5 : w.heap.size + 1 + 1 ≤ (wr.drew.alloc (.cells #[.int .i64 e1, .int .i64 e2] 121)).heap.size := by simp; omega
      have HU := Lib.hid (show ∀ u ∈ [Value.int .i64 e1, Value.int .i64 e2], u.oneCell' = true from by
        intro u hu
        simp only [List.mem_cons, List.not_mem_nil, or_false] at hu
        rcases hu with rfl | rfl <;> rfl)
      have HW := Lib.hid (fun (v' : Value) (w2 : World) (ho : w2.ownsRow (w.heap.size + 1 + 1) 121 2 v' (j + 1) (flat (partL es (T.take j)) ++ [.int .i64 e1, .int .i64 e2])) (hg : (wr.drew.alloc (.cells #[.int .i64 e1, .int .i64 e2] 121)).grownBy w2 V.ownBlock) =>
        show PartI w W0 (w2.setCell ⟨w.heap.size + 1, 1, none⟩ v') (w.heap.size + 1) (some ⟨be, oe, none⟩) c M es v' (partL es (T.take (j + 1))) ∧ (w2.cell? ⟨w.heap.size + 1, 1, none⟩ = some V ∧ w2.frozen? ⟨w.heap.size + 1, 1, none⟩ = false) from by
          have hb2 := HBA.out
          have hh2 := Blk.grown (HI.out.hx.below hb2 HI.out.hx.lt) hg (fun e => by have := (HI.out.own.lt _ e).1; omega)
          obtain ⟨-, q1, -, q2, -⟩ := box_facts hh2
          refine ⟨?_, q1, q2⟩
          rw [HPS.out]
          exact HI.out.push hb2 (by rw [HPL.out]; exact ho) hg)
      have HJ := Lib.hid (show j + 1 ≤ T.length by omega)
      clear hi hb hpl hOW hxr hx he hgd he1 he2 hc1 hc2 hct
      go_wp2_with fail
      go_region_law (first
        | (refine step_append_ownD rfl (.tmp 18) (.tmp 24) 23 rfl (w.heap.size + 1 + 1) 121 i0 (.agg #[.int .i64 0, .int .i64 0]) 2 16 Try.underlying23 hI hz0 hz1 hz2 rfl (by decide) _ _ _ rfl HOW.out ⟨_, 0, none⟩ 1 1 [.int .i64 e1, .int .i64 e2] rfl rfl (HC.out _ rfl) HU.out n3 n4 n5 ?_
           intro v1 w2 hown1 hgrow1
           obtain ⟨A9, m9, c9, rfl⟩ := own_sle hown1
           obtain ⟨HPI, HQ1, HQ2⟩ := HW.out _ w2 hown1 hgrow1
           clear hown1 hgrow1))
      all_goals
        go_wp2
        exact ⟨⟨j + 1, _, HJ.out, by go_num, HPI⟩, by simp [intOf]; omega⟩
    · have hjT : j = T.length := by omega
      obtain ⟨F, cf, rfl, hoe, -⟩ := ownE_of hi.own
      have hTT : T.take j = T := by rw [hjT, List.take_length]
      have HOE := Lib.hid hoe.edges
      have HB := Lib.hid hb
      rw [hTT] at HOE
      rw [hTT] at y1
      have hjl : ¬ ((j : Int) < (T.length : Int)) := by omega
      clear hi hb hjT hTT hoe hpl HPL HI
      have HP0 := Lib.hid (show wr.drew.cell? ⟨w.heap.size, 0, none⟩ = some (.int .i64 (M : Int)) ∧ wr.drew.cell? ⟨w.heap.size + 1, 0, none⟩ = some (.int .i64 (M : Int)) ∧ wr.drew.cell? ⟨w.heap.size + 1, 1, none⟩ = some (.slice F (partL es T).length cf) ∧ Below wr.heap.size wr wr.drew from ⟨x0, y0, y1, (Below.refl _ _).drew⟩)
      have HKP := Lib.hid (fun (W W' : World) (h : W.cell? ⟨w.heap.size, 0, none⟩ = some (.int .i64 (M : Int)) ∧ W.cell? ⟨w.heap.size + 1, 0, none⟩ = some (.int .i64 (M : Int)) ∧ W.cell? ⟨w.heap.size + 1, 1, none⟩ = some (.slice F (partL es T).length cf) ∧ Below wr.heap.size wr W) (hb : Below W.heap.size W W') =>
        show W'.cell? ⟨w.heap.size, 0, none⟩ = some (.int .i64 (M : Int)) ∧ W'.cell? ⟨w.heap.size + 1, 0, none⟩ = some (.int .i64 (M : Int)) ∧ W'.cell? ⟨w.heap.size + 1, 1, none⟩ = some (.slice F (partL es T).length cf) ∧ Below wr.heap.size wr W' from
          ⟨(hb.cell (World.block_lt_of_cell? W _ h.1)).trans h.1, (hb.cell (World.block_lt_of_cell? W _ h.2.1)).trans h.2.1, (hb.cell (World.block_lt_of_cell? W _ h.2.2.1)).trans h.2.2.1, h.2.2.2.trans (hb.mono h.2.2.2.size)⟩)
      go_wp2_with fail
      go_region_held3 (fun w' => w'.cell? ⟨w.heap.size, 0, none⟩ = some (.int .i64 (M : Int)) ∧ w'.cell? ⟨w.heap.size + 1, 0, none⟩ = some (.int .i64 (M : Int)) ∧ w'.cell? ⟨w.heap.size + 1, 1, none⟩ = some (.slice F (partL es T).length cf) ∧ Below wr.heap.size wr w')
        (first
          | with_reducible exact HP0.out
          | with_reducible exact HKP.out _ _ (by assumption) hb6)
        (first
          | (go_at_call 121; refine (l02Reach_any _ _ _ _ _ HPB.out (HOE.out.up_ HP0.out.2.2.2)).mono ?_; rintro e w6 ⟨Ar, cr, q, rfl, hq1, hq2, hb6⟩))
      have hb7 := HB.out.trans ((HP0.out.2.2.2.trans (hb6.mono HP0.out.2.2.2.size)).mono HB.out.size)
      have HF := Lib.hid hq1
      clear hq1 hb6
      go_wp2
      go_ret
      exact ⟨ret_boolE HF.out, hb7⟩
end Go.Proofs.Ytdpojcgeblbfeaa
