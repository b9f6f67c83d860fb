/- slices.Collect at rows of ints: what an iterator gives, collected in new memory. -/
import Derived.Maps.AppendAt
import Derived.Test.YtklaanohbpcifaaEfo
import Derived.Test.YtklaanohbpcifaaEinS
namespace Go.Proofs.Ytklaanohbpcifaa
open Go.RowKit
attribute [local go_sem] Oper.semAt_some

/-- what has been collected when t rows have come -/
def ColI (w0 Z : World) (L : List (List Int)) (t : Nat) : Prop :=
  ∃ (v : Value) (vs : List Value) (G C : Nat → Nat), Boxed Z w0.heap.size 37 v ∧ Z.ownsRow w0.heap.size 25 1 v t vs ∧
    (∀ (i : Nat) (r : List Int), i < t → L[i]? = some r → vs[i]? = some (.slice (some ⟨G i, 0, none⟩) r.length (C i)) ∧ w0.heap.size ≤ G i ∧ QOwn Z w0.heap.size (.slice (some ⟨G i, 0, none⟩) r.length (C i)) r) ∧
    (∀ i j, i < j → j < t → G i ≠ G j) ∧ (∀ i, i < t → G i < Z.heap.size) ∧ Below w0.heap.size w0 Z ∧ (t = 0 → v = .slice none 0 0)
theorem ColI.stp {w0 X Y : World} {L : List (List Int)} {t B : Nat} (h : ColI w0 X L t) (hs : Stp B X Y) (hB : w0.heap.size ≤ B) : ColI w0 Y L t := by
  obtain ⟨v, vs, G, C, h1, h2, h3, h4, h5, h6, h7⟩ := h
  refine ⟨v, vs, G, C, box_stp h1 hs, own_stp h2 hs, fun i r hi hr => ?_, h4, fun i hi => Nat.lt_of_lt_of_le (h5 i hi) hs.size, h6.trans (hs.below hB h6.size), h7⟩
  obtain ⟨q1, q2, q3⟩ := h3 i r hi hr
  exact ⟨q1, q2, own_stp q3 hs⟩
/-- one more row, in a block that is new since X -/
theorem ColI.push {w0 X Y Y1 w1 : World} {L : List (List Int)} {t B b c : Nat} {r : List Int} {v v' : Value} {vs : List Value} {G C : Nat → Nat}
    (h1 : Boxed X w0.heap.size 37 v) (h2 : X.ownsRow w0.heap.size 25 1 v t vs)
    (h3 : ∀ (i : Nat) (r : List Int), i < t → L[i]? = some r → vs[i]? = some (.slice (some ⟨G i, 0, none⟩) r.length (C i)) ∧ w0.heap.size ≤ G i ∧ QOwn X w0.heap.size (.slice (some ⟨G i, 0, none⟩) r.length (C i)) r)
    (h4 : ∀ i j, i < j → j < t → G i ≠ G j) (h5 : ∀ i, i < t → G i < X.heap.size) (h6 : Below w0.heap.size w0 X) (hs : Stp B X Y) (hB : w0.heap.size ≤ B) (hr : L[t]? = some r) (hf : FreshRow X Y b c r)
    (hY1 : Y1 = Y.alloc (.cells #[.slice (some ⟨b, 0, none⟩) r.length c] 25)) (ho : w1.ownsRow w0.heap.size 25 1 v' (t + 1) (vs ++ [.slice (some ⟨b, 0, none⟩) r.length c])) (hg : Y1.grownBy w1 v.ownBlock) :
    ColI w0 (w1.setCell ⟨w0.heap.size, 0, none⟩ v') L (t + 1) := by
  have hvl : vs.length = t := by have := h2.1; omega
  have hbY : Below Y.heap.size Y Y1 := by rw [hY1]; exact (Below.refl _ _).alloc (Nat.le_refl _) _
  have hsY : Stp B X Y1 := hs.trans (Stp.of_below hbY B)
  have hbx : Boxed w1 w0.heap.size 37 v := (box_stp h1 hsY).kept hg ((box_stp h1 hsY).not_row (by decide) (own_stp h2 hsY))
  have hg2 := grownBy_setCell' w1 w0.heap.size v'
  have keepq : ∀ {base : Nat} {x : Value} {p : List Int}, QOwn Y1 base x p → QOwn (w1.setCell ⟨w0.heap.size, 0, none⟩ v') base x p := fun {base x p} hq => by
    have q1 : QOwn w1 base x p := World.ownsRow.kept hq hg (own_types2 hq (own_stp h2 hsY) (by decide))
    refine World.ownsRow.kept q1 hg2 ?_
    by_cases e : x.ownBlock = none
    · exact .inl e
    · exact .inr fun e' => (hbx.not_row (by decide) q1) e'.symm
  have hrow : (w1.setCell ⟨w0.heap.size, 0, none⟩ v').ownsRow w0.heap.size 25 1 v' (t + 1) (vs ++ [.slice (some ⟨b, 0, none⟩) r.length c]) := ho.kept hg2 (.inr fun e' => (hbx.not_row (by decide) ho) e'.symm)
  refine ⟨v', vs ++ [.slice (some ⟨b, 0, none⟩) r.length c], fun i => if i = t then b else G i, fun i => if i = t then c else C i, hbx.set v', hrow, fun i p hi hp => ?_, fun i j hij hj => ?_, fun i hi => ?_, ?_, fun h => absurd h (by omega)⟩
  · rcases Nat.lt_or_ge i t with l | l
    · obtain ⟨q1, q2, q3⟩ := h3 i p l hp
      simp only [if_neg (show ¬ i = t by omega)]
      exact ⟨by rw [List.getElem?_append_left (by omega)]; exact q1, q2, keepq (own_stp q3 hsY)⟩
    · obtain rfl : i = t := by omega
      rw [hr] at hp
      injection hp with hp
      subst hp
      simp only [if_true]
      refine ⟨by rw [List.getElem?_append_right (by omega), hvl, Nat.sub_self]; rfl, Nat.le_trans h6.size hf.1, keepq (ownsRow_mono (own_stp hf.2 (Stp.of_below hbY B)) h6.size)⟩
  · simp only [if_neg (show ¬ i = t by omega)]
    rcases Nat.lt_or_ge j t with l | l
    · simp only [if_neg (show ¬ j = t by omega)]
      exact h4 i j hij l
    · obtain rfl : j = t := by omega
      simp only [if_true]
      have := h5 i hij
      have := hf.1
      omega
  · have s1 : (w1.setCell ⟨w0.heap.size, 0, none⟩ v').heap.size = w1.heap.size := by simp [World.setCell]
    have s2 := hg.size
    have s3 := hsY.size
    rw [s1]
    rcases Nat.lt_or_ge i t with l | l
    · simp only [if_neg (show ¬ i = t by omega)]
      have := h5 i l
      omega
    · obtain rfl : i = t := by omega
      simp only [if_true]
      have := (World.ownsRow.lt hf.2 b rfl).2
      have := hbY.size
      omega
  · refine ((h6.trans (hsY.below hB h6.size)).grown hg (Nat.le_trans h6.size hsY.size) (fun k e => ((own_stp h2 hsY).lt k e).1)).setCell (p := ⟨w0.heap.size, 0, none⟩) (Nat.le_refl _) _
/-- what the round leaves the iterator -/
theorem col_rnd {w0 Y Y1 w1 : World} {q n b c t : Nat} {r : List Int} {v v' : Value} {vs : List Value} (h0 : t = 0 → v = .slice none 0 0) (hq : q ≤ w0.heap.size) (h1 : Boxed Y w0.heap.size 37 v) (h2 : Y.ownsRow w0.heap.size 25 1 v t vs) (hvs : ∀ u ∈ vs, ∃ A k c, u = .slice A k c)
    (hY1 : Y1 = Y.alloc (.cells #[.slice (some ⟨b, 0, none⟩) r.length c] 25)) (hg : Y1.grownBy w1 v.ownBlock) : Rnd q n Y (w1.setCell ⟨w0.heap.size, 0, none⟩ v') := by
  have hbY : Below Y.heap.size Y Y1 := by rw [hY1]; exact (Below.refl _ _).alloc (Nat.le_refl _) _
  have hv : ∃ A k c, v = .slice A k c := by
    rcases h2.2 with ⟨e, _⟩ | ⟨g, cap, cur, e, _⟩
    · exact ⟨none, 0, 0, e⟩
    · exact ⟨_, _, _, e⟩
  have s1 : (w1.setCell ⟨w0.heap.size, 0, none⟩ v').heap.size = w1.heap.size := by simp [World.setCell]
  refine ⟨by rw [s1]; exact Nat.le_trans hbY.size hg.size, fun k o hk ho => ?_⟩
  have hkl := (Array.getElem?_eq_some_iff.1 hk).1
  have kne : k ≠ w0.heap.size := by
    rintro rfl
    rw [show Y.heap[w0.heap.size]? = _ from h1] at hk
    cases hk
    rcases ho with ho | ho | ho
    · obtain ⟨A, m, c, rfl⟩ := hv
      exact ho.2 ⟨_, _, _, rfl, .inl ⟨.inr rfl, A, m, c, rfl⟩⟩
    · cases ho.1
    · omega
  have kno : some k ≠ v.ownBlock := fun e => by
    rcases h2.2 with ⟨e0, _⟩ | ⟨g, cap, cur, e0, hb, hgb, hc1, hc2, hc3, hc4⟩
    · rw [e0] at e; simp [Value.ownBlock] at e
    · rw [e0] at e
      obtain rfl : k = g := by simpa [Value.ownBlock] using e
      rw [hgb] at hk
      cases hk
      rcases ho with ho | ho | ho
      · by_cases ht : 0 < t
        · have hvl : vs.length = t * 1 := h2.1
          obtain ⟨u, hu⟩ : ∃ u, vs[0]? = some u := ⟨_, List.getElem?_eq_getElem (by omega)⟩
          obtain ⟨A, m, c, rfl⟩ := hvs u (List.mem_of_getElem? hu)
          refine ho.2 ⟨cur, _, _, rfl, .inl ⟨.inl rfl, A, m, c, ?_⟩⟩
          rw [← hc4, List.getElem?_take_of_lt (by omega)] at hu
          simpa using hu
        · have h9 := h0 (by omega)
          rw [e0] at h9
          cases h9
      · cases ho.1
      · omega
  have e1 : (w1.setCell ⟨w0.heap.size, 0, none⟩ v').heap[k]? = w1.heap[k]? := Below.heap_setCell _ _ _ _ kne
  rw [e1, hg.block k (by have := hbY.size; omega) kno, hbY.block k hkl]
  exact hk
/-- what has been collected, to be handed back -/
theorem ColI.out {w0 Z : World} {L : List (List Int)} (h : ColI w0 Z L L.length) : ∃ (A : Option Addr) (c : Nat), Boxed Z w0.heap.size 37 (.slice A L.length c) ∧ OwnSS Z w0.heap.size Z.heap.size A L ∧ Below w0.heap.size w0 Z := by
  obtain ⟨v, vs, G, C, h1, h2, h3, h4, h5, h6, h7⟩ := h
  rcases h2.2 with ⟨e, e0⟩ | ⟨g, cap, cur, e, hb, hgb, hc1, hc2, hc3, hc4⟩
  · rw [e] at h1
    exact ⟨none, 0, by rw [e0]; exact h1, fun hn => absurd hn (by omega), h6⟩
  · rw [e] at h1
    refine ⟨_, _, h1, fun hn => ⟨g, 0, G, rfl, hb, (h2.lt g (by rw [e]; rfl)).2, Nat.le_refl _, fun i r hr => ?_, fun i j hi hj hne => ?_⟩, h6⟩
    · have hi := (List.getElem?_eq_some_iff.1 hr).1
      obtain ⟨q1, q2, q3⟩ := h3 i r hi hr
      refine ⟨some ⟨G i, 0, none⟩, C i, ?_, fun hz => ?_, fun e' => ?_⟩
      · have h9 := World.ownsRow.cells h2 (by rw [e]; rfl) i _ q1
        rw [Addr.add_lit] at h9
        exact h9
      · obtain ⟨g', o', hg', k1, k2, k3⟩ := OwnI.of_own q3 hz
        obtain ⟨rfl, rfl⟩ : G i = g' ∧ 0 = o' := by simpa using hg'
        exact ⟨0, rfl, k1, k2, k3⟩
      · rcases own_types2 q3 h2 (by decide) with k | k
        · cases k
        · exact k (by rw [e, e']; rfl)
    · rcases Nat.lt_or_ge i j with l | l
      · exact h4 i j l hj
      · exact fun e' => h4 j i (by omega) hi e'.symm
set_option maxRecDepth 100000 in
set_option maxHeartbeats 4000000 in
theorem appendSeq_any (q : Nat) (gf : FuncId) (lb : Array Value) (L : List (List Int)) (w : World) (eg : ∀ args w, (callFunc gf args).run Try.prog w = .ok (.enter gf args) w) (hit : Itr q gf lb L w) (hq : q ≤ w.heap.size) (hL : L.length ≤ 262144) :
    Calls Try.prog 36 #[.slice none 0 0, .func (.func gf) #[] lb] w fun e w' => ∃ (A : Option Addr) (c : Nat), e = .returned (.slice A L.length c) ∧ OwnSS w' w.heap.size w'.heap.size A L ∧ Below w.heap.size w w' := by
  obtain ⟨i1, hj, hy0, hy1, hy2⟩ := info_parts rowsInfo
  have HIT := Lib.hid hit
  have HL := Lib.hid hL
  have EG := Lib.hid eg
  have h0 : ColI w (w.alloc (.cells #[.slice none 0 0] 37)) L 0 := ⟨_, [], fun _ => 0, fun _ => 0, Boxed.new _ _ _, ⟨rfl, .inl ⟨rfl, rfl⟩⟩, fun i r hi => absurd hi (by omega), fun i j _ hj => absurd hj (by omega), fun i hi => absurd hi (by omega), (Below.refl _ _).alloc (Nat.le_refl _) _, fun _ => rfl⟩
  have H0 := Lib.hid h0
  clear hit hL eg h0
  refine callsIn_wide.1 (callsIn_of_wp_marks (n := 9) Try.func36 rfl trivial (wpIn_wide.2 ?_) rfl)
  simp only [Try.ntmps36, List.size_toArray, List.length_cons, List.length_nil, Nat.reduceAdd, Nat.reduceSub, Array.replicate_succ, Array.replicate_zero, List.push_toArray, List.append_toArray, List.nil_append, List.cons_append]
  go_wp2
  obtain ⟨w1, hw1⟩ : ∃ z, z = w.alloc (.cells #[.slice none 0 0] 37) := ⟨_, rfl⟩
  have hb1 : Below w.heap.size w w1 := by rw [hw1]; exact (Below.refl _ _).alloc (Nat.le_refl _) _
  rw [← hw1] at H0 ⊢
  clear hw1
  have hs1 := hb1.size
  refine wpIn_wide.1 (range_it (n := 9) (q := q) (L := L) rfl EG.out HIT.out (by omega) hb1 (fun t Z => ColI w Z L t) (fun _ _ _ => False) ?abd ?abdx H0.out
    (fun v => { tmps := #[.slice none 0 0, .func (.func gf) #[] lb, .pointer (some ⟨w.heap.size, 0, none⟩), undef, .slice none 0 0, v, .func (.func gf) #[] lb, v, undef, undef, undef, undef, undef], defers := [] }) ?assign ?body ?done ?stop)
  case abd => exact fun t X Y h hs => h.stp hs hs1
  case abdx => exact fun c t X Y h hs => h
  case stop => exact fun c t Z h => h.elim
  case assign =>
    intro l2 v Wz K hK
    gi_wp2
    exact hK
  case body =>
    rintro l2 t b c r X Y hl2 ⟨v, vs, G, C, h1, h2, h3, h4, h5, h6, h7⟩ hs hr hf
    have y1 := box_stp h1 hs
    have y2 := own_stp h2 hs
    have cy := y1.cell
    have fy := y1.frozen
    have ly := y1.lt
    have htl := (List.getElem?_eq_some_iff.1 hr).1
    have hvl : vs.length = t := by have := h2.1; omega
    have hvs : ∀ u ∈ vs, ∃ A k c, u = .slice A k c := fun u hu => by
      obtain ⟨i, hi⟩ := List.getElem?_of_mem hu
      have hil := (List.getElem?_eq_some_iff.1 hi).1
      obtain ⟨q1, -, -⟩ := h3 i (L[i]'(by omega)) (by omega) (List.getElem?_eq_getElem (by omega))
      rw [hi] at q1
      injection q1 with q1
      exact ⟨_, _, _, q1⟩
    have FIN := Lib.hid (show ∀ w3 v', w3.ownsRow w.heap.size 25 1 v' (t + 1) (vs ++ [.slice (some ⟨b, 0, none⟩) r.length c]) → (Y.alloc (.cells #[.slice (some ⟨b, 0, none⟩) r.length c] 25)).grownBy w3 v.ownBlock → Rnd q w1.heap.size Y (w3.setCell ⟨w.heap.size, 0, none⟩ v') ∧ ColI w (w3.setCell ⟨w.heap.size, 0, none⟩ v') L (t + 1) from fun w3 v' ho hg =>
      ⟨col_rnd h7 hq y1 y2 hvs rfl hg, ColI.push h1 h2 h3 h4 h5 h6 hs hs1 hr hf rfl ho hg⟩)
    have KEEP := Lib.hid (show ∀ w3, (Y.alloc (.cells #[.slice (some ⟨b, 0, none⟩) r.length c] 25)).grownBy w3 v.ownBlock → Boxed w3 w.heap.size 37 v from fun w3 hg => Boxed.kept (y1.alloc _) hg (Boxed.not_row (y1.alloc (.cells #[.slice (some ⟨b, 0, none⟩) r.length c] 25)) (by decide) (y2.alloc _)))
    have Y2 := Lib.hid (y2.alloc (.cells #[.slice (some ⟨b, 0, none⟩) r.length c] 25))
    have n3 : t + 1 ≤ maxLen := by have := HL.out; unfold maxLen; omega
    have n4 : (t + 1) * 24 ≤ 140737488355328 := by have := HL.out; omega
    have n5 : w.heap.size ≤ (Y.alloc (.cells #[.slice (some ⟨b, 0, none⟩) r.length c] 25)).heap.size := by simp; omega
    clear h1 h2 h3 h4 h5 h6 h7 hs hr hf y1 y2 hvs hvl htl
    gi_wp2_with (gi_at_builtin; refine wpListIn_append_own _ rfl _ _ 37 rfl w.heap.size 25 i1 (.slice none 0 0) 1 24 Try.underlying37 hj hy0 hy1 hy2 rfl (by decide) _ _ _ rfl Y2.out ⟨Y.heap.size, 0, none⟩ 1 1 [_] rfl rfl (one_cell _ _ rfl _ _) (fun u hu => by rw [List.mem_singleton] at hu; rw [hu]; rfl) n3 n4 n5 ?_; intro v' w3 hown' hgrow _; have hbx := (KEEP.out w3 hgrow); have cb := hbx.cell; have fb := hbx.frozen; have HO := Lib.hid hown'; have HG := Lib.hid hgrow; clear hown' hgrow hbx; obtain ⟨A', m', c', rfl⟩ := own_sl HO.out)
    exact FIN.out w3 _ HO.out HG.out
  case done =>
    rintro Z h hD
    obtain ⟨A, c, hbx, ho, hb⟩ := h.out
    have cz := hbx.cell
    have H := Lib.hid h
    clear h ho hb
    go_wp2
    refine marks_leave (B := w.heap.size) (fun h => (by cases h)) [w1.heap.size] Z (by simp) (fun D hE => by
      rw [List.mem_singleton] at hE
      subst hE
      exact ⟨hs1, hD⟩) (fun w' hw' => ⟨_, results_tmp rfl _ _ _, ?_⟩)
    obtain ⟨A2, c2, hbx2, ho2, hb2⟩ := (H.out.stp hw' (Nat.le_refl _)).out
    have h9 : Boxed w' w.heap.size 37 (.slice A L.length c) := box_stp hbx hw'
    have h8 := (show w'.heap[w.heap.size]? = _ from h9).symm.trans hbx2
    simp only [Option.some.injEq, Obj.cells.injEq, Array.mk.injEq, List.cons.injEq, Value.slice.injEq, and_true, true_and] at h8
    obtain ⟨rfl, rfl⟩ := h8
    exact ⟨A, c, rfl, ho2, hb2⟩
theorem collect_any (q : Nat) (gf : FuncId) (lb : Array Value) (L : List (List Int)) (w : World) (eg : ∀ args w, (callFunc gf args).run Try.prog w = .ok (.enter gf args) w) (hit : Itr q gf lb L w) (hq : q ≤ w.heap.size) (hL : L.length ≤ 262144) :
    Calls Try.prog 24 #[.func (.func gf) #[] lb] w fun e w' => ∃ (A : Option Addr) (c : Nat), e = .returned (.slice A L.length c) ∧ OwnSS w' w.heap.size w'.heap.size A L ∧ Below w.heap.size w w' := by
  have HA := Lib.hid (appendSeq_any q gf lb L w eg hit hq hL)
  clear eg hit
  go_enter Try.func24, Try.ntmps24
  go_wp2_with fail
  refine HA.out.mono ?_
  rintro e w1 ⟨A, c, rfl, ho, hb⟩
  have HO := Lib.hid ho
  clear ho
  go_wp2
  go_ret
  exact ⟨A, c, rfl, HO.out, hb⟩
end Go.Proofs.Ytklaanohbpcifaa
