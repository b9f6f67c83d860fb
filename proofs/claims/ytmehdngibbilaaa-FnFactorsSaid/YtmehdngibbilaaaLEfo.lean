/- effectiveOf: the iterator over all effective divisors of a degree. -/
import Derived.RangeFuncLeaves
import Derived.WalkKit
import Derived.OwnWalkIn
import Derived.TacticsInMore
import Derived.LoopIn
import Derived.Test.YtmehdngibbilaaaLItrR
import Derived.Test.YtmehdngibbilaaaLOwn1
namespace Go.Proofs.Ytmehdngibbilaaa
open Go.RowKit
attribute [local go_sem] Oper.semAt_some

theorem effectiveOf_any (n k : Int) (w : World) : Calls Try.prog 74 #[.int .i64 n, .int .i64 k] w fun e w' =>
    e = .returned (.func (.func 119) #[] #[.pointer (some ⟨w.heap.size, 0, none⟩), .pointer (some ⟨w.heap.size + 1, 0, none⟩)]) ∧ w' = (w.alloc (.cells #[.int .i64 n] 3)).alloc (.cells #[.int .i64 k] 3) := by
  go_enter Try.func74, Try.ntmps74
  go_wp2
  go_ret
  exact ⟨rfl, rfl⟩
def markD (D : Nat) : Deferred := { target := .collected D, args := #[] }
theorem marks_leave {n : Nat} {fn : Func} {tmps : Array Value} {R : Ending → World → Prop} {u : FrameMode} {B : Nat} (hu : u ≠ .run) : ∀ (Ds : List Nat) (w : World), Ds.Nodup → (∀ D ∈ Ds, B ≤ D ∧ w.heap[D]? = some (.deferred (some []))) →
    (∀ w', Stp B w w' → LeavesInM Fence.wide n Try.prog fn tmps R [] u w') → LeavesInM Fence.wide n Try.prog fn tmps R (Ds.map markD) u w
  | [], w, _, _, h => h w (Stp.refl _ _)
  | D :: Ds, w, hn, hD, h => by
    obtain ⟨h1, h2⟩ := hD D (by simp)
    rw [List.nodup_cons] at hn
    refine ⟨hu, .inl ⟨D, _, rfl, run_takeDeferred h2, marks_leave hu Ds _ hn.2 (fun E hE => ?_) fun w' hw' => h w' ((Stp.put h2 rfl h1 _).trans hw')⟩⟩
    obtain ⟨h3, h4⟩ := hD E (by simp [hE])
    refine ⟨h3, (World.putObj_heap_other ?_).trans h4⟩
    rintro rfl
    exact hn.1 hE
set_option maxRecDepth 100000 in
set_option maxHeartbeats 4000000 in
theorem efo_one (q k : Nat) (b1 b2 : Nat) (w : World) (hx1 : Boxed w b1 3 (.int .i64 1)) (hx2 : Boxed w b2 3 (.int .i64 (k : Int))) :
    Itr q 119 #[.pointer (some ⟨b1, 0, none⟩), .pointer (some ⟨b2, 0, none⟩)] (effB 1 (k : Int)) w := by
  intro l J Jx W hq hW hJ hJx hY h0
  have y1 : Boxed W b1 3 (.int .i64 1) := (hW.block b1 hx1.lt).trans hx1
  have y2 : Boxed W b2 3 (.int .i64 (k : Int)) := (hW.block b2 hx2.lt).trans hx2
  have hs1 : Below W.heap.size W (W.alloc (.cells #[.func (.yield l) #[] #[]] 121)) := (Below.refl _ _).alloc (Nat.le_refl _) _
  obtain ⟨fn, tmps, assign, body, hy, hR⟩ := YieldAt.any (m' := 8) (hY 0 [(k : Int)] (W.heap.size + 1) 1 (W.alloc (.cells #[.func (.yield l) #[] #[]] 121)) ((W.alloc (.cells #[.func (.yield l) #[] #[]] 121)).alloc (.cells #[.int .i64 (k : Int)] 3))
    (hJ 0 _ _ h0 (Stp.of_below hs1 _)) (Stp.of_below ((Below.refl _ _).alloc (Nat.le_refl _) _) _) (by rw [effB_one (by omega)]; rfl) ⟨by simp, by
      have h := own_single (W.alloc (.cells #[.func (.yield l) #[] #[]] 121)) (.int .i64 (k : Int)) 3
      have hs : (W.alloc (.cells #[.func (.yield l) #[] #[]] 121)).heap.size = W.heap.size + 1 := by simp
      rw [hs] at h ⊢
      exact h⟩)
  have c1 := y1.cell
  have c2 := y2.cell
  have l1 := y1.lt
  have l2 := y2.lt
  simp only [List.length_cons, List.length_nil] at hy
  refine callsIn_wide.1 (callsIn_of_wp_marks (n := 9) Try.func119 rfl trivial ?_ rfl)
  simp only [Try.ntmps119, List.size_toArray, List.length_cons, List.length_nil, Nat.reduceAdd, Nat.reduceSub, Array.replicate_succ, Array.replicate_zero, List.push_toArray, List.append_toArray, List.nil_append, List.cons_append]
  gi_wp2
  refine hR.mono ?_
  rintro e Z (⟨rfl, hj, -⟩ | ⟨rfl, hj, -⟩)
  · gi_wp2
    exact ⟨_, results_none rfl _ _ _, ⟨_, rfl⟩, .inl (by rw [effB_one (by omega)]; exact hj)⟩
  · gi_wp2
    exact ⟨_, results_none rfl _ _ _, ⟨_, rfl⟩, .inr ⟨_, hj⟩⟩
theorem eff_at {n k j t : Nat} {r : List Int} (hj : j ≤ k) (h : (effB (n + 1) ((k : Int) - (j : Int)))[t]? = some r) : (effB (n + 2) (k : Int))[(effTo n (k : Int) j).length + t]? = some ((j : Int) :: r) := by
  have hs : ∀ m, j + 1 ≤ m → (effTo n (k : Int) m)[(effTo n (k : Int) j).length + t]? = some ((j : Int) :: r) := fun m hm => by
    induction m with
    | zero => omega
    | succ m ih =>
      have hst := effTo_step n (k : Int) m
      by_cases e : m = j
      · subst e
        rw [hst, List.getElem?_append_right (by omega), Nat.add_sub_cancel_left, List.getElem?_map, h]
        rfl
      · have h1 := ih (by omega)
        rw [hst, List.getElem?_append_left (List.getElem?_eq_some_iff.1 h1).1]
        exact h1
  rw [effB_two]
  exact hs (k + 1) (by omega)
structure EfoI (W wr : World) (l b1 b2 n k : Nat) (Ds : List Nat) (top : Nat) : Prop where
  nodup : Ds.Nodup
  marks : ∀ D ∈ Ds, W.heap.size ≤ D ∧ D < top ∧ wr.heap[D]? = some (.deferred (some []))
  yb : Boxed wr W.heap.size 121 (.func (.yield l) #[] #[])
  x1 : Boxed wr b1 3 (.int .i64 ((n + 2 : Nat) : Int))
  x2 : Boxed wr b2 3 (.int .i64 (k : Int))
theorem EfoI.stp {W X Y : World} {l b1 b2 n k top B : Nat} {Ds : List Nat} (h : EfoI W X l b1 b2 n k Ds top) (hs : Stp B X Y) (hB : top ≤ B) : EfoI W Y l b1 b2 n k Ds top :=
  ⟨h.nodup, fun D hD => by
    obtain ⟨h1, h2, h3⟩ := h.marks D hD
    exact ⟨h1, h2, hs.keep D _ h3 (.inr (by omega))⟩, box_stp h.yb hs, box_stp h.x1 hs, box_stp h.x2 hs⟩
theorem EfoI.rnd {W X Y : World} {q B l b1 b2 n k top : Nat} {Ds : List Nat} (h : EfoI W X l b1 b2 n k Ds top) (hs : Rnd q W.heap.size B X Y) (hW : W.heap.size < B) (hb1 : b1 < B) (hb2 : b2 < B) : EfoI W Y l b1 b2 n k Ds top :=
  ⟨h.nodup, fun D hD => by
    obtain ⟨h1, h2, h3⟩ := h.marks D hD
    exact ⟨h1, h2, hs.keep D _ h3 (.inr (.inl ⟨rfl, h1⟩))⟩, box_rnd h.yb hs hW (by decide) (by decide), box_rnd h.x1 hs hb1 (by decide) (by decide), box_rnd h.x2 hs hb2 (by decide) (by decide)⟩
theorem EfoI.below {W X Y : World} {l b1 b2 n k top : Nat} {Ds : List Nat} (h : EfoI W X l b1 b2 n k Ds top) (hs : Below X.heap.size X Y) (ht : top ≤ X.heap.size) : EfoI W Y l b1 b2 n k Ds top := h.stp (Stp.of_below hs X.heap.size) ht
theorem EfoI.more {W X : World} {l b1 b2 n k top D : Nat} {Ds : List Nat} (h : EfoI W X l b1 b2 n k Ds top) (h1 : top ≤ D) (h2 : W.heap.size ≤ D) (h3 : X.heap[D]? = some (.deferred (some []))) : EfoI W X l b1 b2 n k (D :: Ds) (D + 1) :=
  ⟨by
    rw [List.nodup_cons]
    refine ⟨fun hm => ?_, h.nodup⟩
    have := (h.marks D hm).2.1
    omega, fun E hE => by
    rw [List.mem_cons] at hE
    rcases hE with rfl | hE
    · exact ⟨h2, by omega, h3⟩
    · obtain ⟨q1, q2, q3⟩ := h.marks E hE
      exact ⟨q1, by omega, q3⟩, h.yb, h.x1, h.x2⟩
set_option maxRecDepth 100000 in
set_option maxHeartbeats 8000000 in
theorem efo_itr (q : Nat) : ∀ (n k : Nat) (b1 b2 : Nat) (w : World), n + 1 ≤ 6 → k ≤ 16 → Boxed w b1 3 (.int .i64 ((n + 1 : Nat) : Int)) → Boxed w b2 3 (.int .i64 (k : Int)) →
    Itr q 119 #[.pointer (some ⟨b1, 0, none⟩), .pointer (some ⟨b2, 0, none⟩)] (effB (n + 1) (k : Int)) w := by
  intro n
  induction n with
  | zero => exact fun k b1 b2 w _ _ h1 h2 => efo_one q k b1 b2 w h1 h2
  | succ n ih =>
    intro k b1 b2 w hn hk hx1 hx2 l J Jx W hq hW hJ hJx hY h0
    have IH := Lib.hid ih
    have HY := Lib.hid hY
    have HJ := Lib.hid hJ
    have HJx := Lib.hid hJx
    have y1 : Boxed W b1 3 (.int .i64 ((n + 2 : Nat) : Int)) := (hW.block b1 hx1.lt).trans hx1
    have y2 : Boxed W b2 3 (.int .i64 (k : Int)) := (hW.block b2 hx2.lt).trans hx2
    have c1 := y1.cell
    have c2 := y2.cell
    have l1 := y1.lt
    have l2 := y2.lt
    have hs1 : Below W.heap.size W (W.alloc (.cells #[.func (.yield l) #[] #[]] 121)) := (Below.refl _ _).alloc (Nat.le_refl _) _
    have HJ0 := Lib.hid (hJ 0 _ _ h0 (Stp.of_below hs1 _))
    have HI0 := Lib.hid (show EfoI W (W.alloc (.cells #[.func (.yield l) #[] #[]] 121)) l b1 b2 n k [] W.heap.size from ⟨List.nodup_nil, fun D h => (by cases h), Boxed.new _ _ _, y1.alloc _, y2.alloc _⟩)
    have t1 : (((n : Int) + 2) == 1) = false := by simp; omega
    clear ih hY hJ hJx hx1 hx2 hW h0 y1 y2 hs1
    refine callsIn_wide.1 (callsIn_of_wp_marks (n := 9) Try.func119 rfl trivial ?_ rfl)
    simp only [Try.ntmps119, List.size_toArray, List.length_cons, List.length_nil, Nat.reduceAdd, Nat.reduceSub, Array.replicate_succ, Array.replicate_zero, List.push_toArray, List.append_toArray, List.nil_append, List.cons_append]
    gi_wp2
    refine wpIn_loop (fun a wr => ∃ (j : Nat) (Ds : List Nat) (top : Nat) (u4 u5 u7 u15 u16 u17 u18 u19 u20 u21 u22 u23 u24 u25 u26 u27 u28 u29 u30 u31 : Value), j ≤ k + 1 ∧ top ≤ wr.heap.size ∧ EfoI W wr l b1 b2 n k Ds top ∧ J (effTo n (k : Int) j).length wr ∧
        a = { tmps := #[.func (.yield l) #[] #[], .pointer (some ⟨b1, 0, none⟩), .pointer (some ⟨b2, 0, none⟩), .pointer (some ⟨W.heap.size, 0, none⟩), u4, u5, .int .i64 ((n : Int) + 2), u7, undef, undef, undef, undef,
          .int .i64 (k : Int), .int .i64 ((k : Int) + 1), .int .i64 (j : Int), u15, u16, u17, u18, u19, u20, u21, u22, u23, u24, u25, u26, u27, u28, u29, u30, u31], defers := Ds.map markD }) (fun a _ => k + 1 - (intOf (a.tmps.getD 14 undef)).toNat) ?start ?round
    case start => exact ⟨0, [], W.heap.size, _, _, _, _, _, _, _, _, _, _, _, _, _, _, _, _, _, _, _, _, Nat.zero_le _, by simp, HI0.out, HJ0.out, rfl⟩
    case round =>
      clear HJ0 HI0 c1 c2
      rintro _ wr ⟨j, Ds, top, u4, u5, u7, u15, u16, u17, u18, u19, u20, u21, u22, u23, u24, u25, u26, u27, u28, u29, u30, u31, hj, htop, hI, hJj, rfl⟩
      have HI := Lib.hid hI
      have HJJ := Lib.hid hJj
      have c1 := hI.x1.cell
      have c2 := hI.x2.cell
      have l3 := hI.yb.lt
      have l4 := hI.x1.lt
      have l5 := hI.x2.lt
      clear hI hJj
      by_cases hlt : j < k + 1
      · have z1 : (j : Int) < (k : Int) + 1 := by omega
        have z2 : IntKind.i64.wrap ((n : Int) + 2 - 1) = ((n + 1 : Nat) : Int) := by rw [IntKind.wrap_i64]; omega
        have z3 : IntKind.i64.wrap ((k : Int) - (j : Int)) = ((k - j : Nat) : Int) := by rw [IntKind.wrap_i64]; omega
        gi_wp2
        refine ⟨trivial, (callsIn_wide.2 (effectiveOf_any ((n : Int) + 1) _ _)).mono ?_⟩
        rintro e w2 ⟨rfl, hw2⟩
        have hbw : Below wr.heap.size wr w2 := by rw [hw2]; exact (((Below.refl _ _).alloc (Nat.le_refl _) _).alloc (by simp) _).alloc (by simp; omega) _
        have hs2 : w2.heap.size = wr.heap.size + 3 := by rw [hw2]; simp
        have hX : Boxed w2 wr.heap.size 3 (.int .i64 (j : Int)) := by rw [hw2]; exact ((Boxed.new _ _ _).alloc _).alloc _
        have hN : Boxed w2 (wr.heap.size + 1) 3 (.int .i64 ((n + 1 : Nat) : Int)) := by
          have h := (Boxed.new (wr.alloc (.cells #[.int .i64 (j : Int)] 3)) 3 (.int .i64 ((n : Int) + 1))).alloc (.cells #[.int .i64 ((k - j : Nat) : Int)] 3)
          rw [World.size_alloc] at h
          rw [hw2]
          exact h
        have hK : Boxed w2 (wr.heap.size + 2) 3 (.int .i64 ((k - j : Nat) : Int)) := by
          have h := Boxed.new ((wr.alloc (.cells #[.int .i64 (j : Int)] 3)).alloc (.cells #[.int .i64 ((n : Int) + 1)] 3)) 3 (.int .i64 ((k - j : Nat) : Int))
          rw [World.size_alloc, World.size_alloc] at h
          rw [hw2]
          exact h
        have HIT := IH.out (k - j) (wr.heap.size + 1) (wr.heap.size + 2) w2 (by omega) (by omega) hN hK
        have hsz1 : (wr.alloc (.cells #[.int .i64 (j : Int)] 3)).heap.size = wr.heap.size + 1 := by simp
        rw [hsz1]
        have HI2 := Lib.hid (HI.out.below hbw htop)
        have HJ2 := Lib.hid (HJ.out _ _ _ HJJ.out (Stp.of_below hbw _))
        have hWs : W.heap.size ≤ wr.heap.size := by omega
        have hkj : ((k - j : Nat) : Int) = (k : Int) - (j : Int) := by omega
        rw [hkj] at HIT
        have HBX := Lib.hid hX
        have HLE := Lib.hid (show j ≤ k by omega)
        clear hw2 hX hN hK hbw hsz1 c1 c2 l3 l4 l5 HJJ HI
        gi_wp2
        refine range_it (L := effB (n + 1) ((k : Int) - (j : Int))) rfl (enters_of Try.func119 (by kernel_rfl) rfl) HIT (by omega) (Below.refl _ _)
          (fun t Z => EfoI W Z l b1 b2 n k Ds top ∧ Boxed Z wr.heap.size 3 (.int .i64 (j : Int)) ∧ J ((effTo n (k : Int) j).length + t) Z)
          (fun c _ Z => c = .ret ∧ EfoI W Z l b1 b2 n k Ds top ∧ ∃ t, Jx t Z) ?abd ?abdx ⟨HI2.out, HBX.out, HJ2.out⟩
          (fun v => { tmps := #[.func (.yield l) #[] #[], .pointer (some ⟨b1, 0, none⟩), .pointer (some ⟨b2, 0, none⟩), .pointer (some ⟨W.heap.size, 0, none⟩), .pointer (some ⟨wr.heap.size, 0, none⟩), v, .int .i64 ((n : Int) + 2), u7, undef, undef, undef, undef,
            .int .i64 (k : Int), .int .i64 ((k : Int) + 1), .int .i64 (j : Int), .bool true, .int .i64 (j : Int), .int .i64 ((n : Int) + 2), .int .i64 ((n : Int) + 1), .int .i64 (k : Int), .int .i64 (j : Int), .int .i64 ((k : Int) - (j : Int)),
            .func (.func 119) #[] #[.pointer (some ⟨wr.heap.size + 1, 0, none⟩), .pointer (some ⟨wr.heap.size + 1 + 1, 0, none⟩)], v, u24, u25, u26, u27, u28, u29, u30, u31], defers := [] }) ?assign ?body ?done ?stop
        case abd =>
          rintro t X Y ⟨h1, h2, h3⟩ hs
          exact ⟨h1.stp hs (by omega), box_stp h2 hs, HJ.out _ _ _ h3 (hs.mono (by omega))⟩
        case abdx =>
          rintro c t X Y ⟨h1, h2, t', h3⟩ hs
          exact ⟨h1, h2.stp hs (by omega), t', HJx.out _ _ _ h3 (hs.mono (by omega))⟩
        case assign =>
          intro l2 v Wz K hK
          gi_wp2
          exact hK
        case body =>
          rintro l2 t b c r X Y hl2 ⟨h1, h2, h3⟩ hs hr ⟨hfb, hfo⟩
          have e1 := h1.stp hs (by omega)
          have e2 := box_stp h2 hs
          have cy := e1.yb.cell
          have cx := e2.cell
          have hyX := h1.yb.lt
          have hx1X := h1.x1.lt
          have hx2X := h1.x2.lt
          have hjX := h2.lt
          have ly := e1.yb.lt
          have lx := e2.lt
          have hrl : r.length = n + 1 := (effB_mem _ _ r (List.mem_of_getElem? hr)).1
          obtain ⟨i0, hi, hz0, hz1, hz2⟩ := info_parts intInfo
          have hmx : Try.prog.follows .mixedOrders = true := by kernel_rfl
          have hbW : Below Y.heap.size Y (Y.drew.alloc (.cells #[.int .i64 (j : Int)] 3)) := ((Below.refl _ _).drew).alloc (Nat.le_refl _) _
          have hfW := own_stp hfo (Stp.of_below hbW Y.heap.size)
          obtain ⟨g, cap, w3, happ, hown3, hgrow3, -, -⟩ := run_append_lies (P := Try.prog) (w := Y.drew.alloc (.cells #[.int .i64 (j : Int)] 3)) 27 27 Y.heap.size 3 i0 (.int .i64 0) 1 8 Try.underlying27 hi hz0 hz1 hz2 rfl (by decide)
            (.slice (some ⟨Y.heap.size, 0, none⟩) 1 1) 1 [.int .i64 (j : Int)] (own_single Y.drew (.int .i64 (j : Int)) 3) ⟨b, 0, none⟩ r.length c (intCells r) (by simp [intCells]) (fun m u hu => World.ownsRow.cells hfW rfl m u hu)
            (fun u hu => by
              simp only [intCells, List.mem_map] at hu
              obtain ⟨z, _, rfl⟩ := hu
              rfl) (by omega) (by unfold maxLen; omega) (by omega) (by simp) (Y.heap.size + 1) (by simp)
          rw [Nat.add_comm 1 r.length] at happ hown3
          have hg3 := (World.ownsRow.lt hown3 g rfl).1
          have hb3 : Below Y.heap.size Y w3 := hbW.grown hgrow3 (by simp) (fun q hq => by cases hq; exact Nat.le_refl _)
          have hXY := hs.size
          obtain ⟨fn, tmps, assign, body, hy, hR⟩ := YieldAt.any (m' := 8) (YieldAt.mono_
            (R' := fun e Z => ∃ bb : Bool, e = .returned (.bool bb) ∧ Rnd q W.heap.size X.heap.size w3 Z ∧ (bb = true → J ((effTo n (k : Int) j).length + t + 1) Z) ∧ (bb = false → ∃ t', Jx t' Z))
            (HY.out ((effTo n (k : Int) j).length + t) ((j : Int) :: r) g cap X w3 h3 ((hs.mono (by omega)).trans (Stp.of_below hb3 _)) (eff_at HLE.out hr) ⟨by omega, ownsRow_mono hown3 hXY⟩) (fun e Z h => by
              rcases h with ⟨rfl, q1, q2⟩ | ⟨rfl, q1, q2⟩
              · exact ⟨true, rfl, q2, fun _ => q1, fun h => (by cases h)⟩
              · exact ⟨false, rfl, q2, fun h => (by cases h), fun _ => ⟨_, q1⟩⟩))
          simp only [List.length_cons] at hy
          have FI0 : ∀ Z, Rnd q W.heap.size X.heap.size w3 Z → Rnd q w2.heap.size X.heap.size Y Z ∧ EfoI W Z l b1 b2 n k Ds top ∧ Boxed Z wr.heap.size 3 (.int .i64 (j : Int)) := fun Z hz => by
            have q1 := e1.below hb3 (by omega)
            have q2 : Boxed w3 wr.heap.size 3 (.int .i64 (j : Int)) := (hb3.block _ lx).trans e2
            exact ⟨(Rnd.of_below hb3 _ _ _).trans (hz.mono (by omega)), q1.rnd hz hyX hx1X hx2X, box_rnd q2 hz hjX (by decide) (by decide)⟩
          have FIN := Lib.hid (show ∀ Z, Rnd q W.heap.size X.heap.size w3 Z → J ((effTo n (k : Int) j).length + t + 1) Z → Rnd q w2.heap.size X.heap.size Y Z ∧ EfoI W Z l b1 b2 n k Ds top ∧ Boxed Z wr.heap.size 3 (.int .i64 (j : Int)) ∧ J ((effTo n (k : Int) j).length + (t + 1)) Z from fun Z hz hj => by
            obtain ⟨q1, q2, q3⟩ := FI0 Z hz
            exact ⟨q1, q2, q3, hj⟩)
          have FINX := Lib.hid (show ∀ Z, Rnd q W.heap.size X.heap.size w3 Z → (∃ t', Jx t' Z) → Rnd q w2.heap.size X.heap.size Y Z ∧ (Code.ret = Code.ret ∧ EfoI W Z l b1 b2 n k Ds top ∧ ∃ t', Jx t' Z) from fun Z hz hj => by
            obtain ⟨q1, q2, q3⟩ := FI0 Z hz
            exact ⟨q1, rfl, q2, hj⟩)
          have HRL := Lib.hid hrl
          have cy3 : w3.cell? ⟨W.heap.size, 0, none⟩ = some (.func (.yield l) #[] #[]) := (hb3.cell (p := ⟨W.heap.size, 0, none⟩) ly).trans cy
          clear hfW hbW hown3 hgrow3 hb3 h1 h2 h3 e1 e2 hfo hr hrl FI0 hs2 hyX hx1X hx2X hjX
          gi_wp2
          -- REGION
          refine region_round hmx (by kernel_rfl) ?_
          refine wpAnyIn_take (i := 3) (v := .slice (some ⟨b, 0, none⟩) r.length c) rfl rfl (by kernel_rfl) (by kernel_rfl) (by kernel_rfl) (fun _ _ _ h => h) ⟨Or.inl ⟨by rfl, fun w => ?_⟩, fun _ => rfl⟩ ?_
          · go_simp
          refine wpAnyIn_ready (rs := [0, 1]) (by kernel_rfl) (by simp) ?_
          refine AllReadyIn.cons rfl (fun K hK => ?_) ?_
          · go_simp
            refine hK _ _ ?_
            clear hK K
            refine wpAnyIn_ready (rs := [1]) (by kernel_rfl) (by simp) ?_
            refine AllReadyIn.cons rfl (fun K hK => ?_) ?_
            · go_simp
              refine hK _ _ ?_
              clear hK K
              refine wpAnyIn_ready (rs := [2]) (by kernel_rfl) (by simp) ?_
              refine AllReadyIn.cons rfl (fun K hK => ?_) ?_
              · go_simp
                refine hK _ _ ?_
                clear hK K
                refine wpAnyIn_ready (rs := [4]) (by kernel_rfl) (by simp) ?_
                refine AllReadyIn.cons rfl (fun K hK => ?_) ?_
                · refine step_append_eq rfl (.tmp 26) (.tmp 27) 27 rfl _ _ _ rfl rfl happ (fun _ => trivial) ?_
                  refine hK _ _ ?_
                  clear hK K
                  refine wpAnyIn_ready (rs := [5]) (by kernel_rfl) (by simp) ?_
                  refine AllReadyIn.cons rfl (fun K hK => ?_) ?_
                  · go_simp
                    refine hR.mono ?_
                    rintro e Z ⟨bb, rfl, hz, hj1, hj2⟩
                    refine hK _ _ ?_
                    clear hK K
                    refine wpAnyIn_ready (rs := [6]) (by kernel_rfl) (by simp) ?_
                    refine AllReadyIn.cons rfl (fun K hK => ?_) ?_
                    · go_simp
                      refine hK _ _ ?_
                      clear hK K
                      refine wpAnyIn_done (by kernel_rfl) ?_ _
                      cases bb with
                      | true =>
                        gi_wp2
                        exact FIN.out Z hz (hj1 (by simp))
                      | false =>
                        gi_wp2
                        obtain ⟨q1, -, q2⟩ := FINX.out Z hz (hj2 (by simp))
                        exact ⟨q1, rfl, q2⟩
                    exact AllReadyIn.nil
                  exact AllReadyIn.nil
                exact AllReadyIn.nil
              exact AllReadyIn.nil
            exact AllReadyIn.nil
          refine AllReadyIn.cons rfl (fun K hK => ?_) ?_
          · go_simp
            refine hK _ _ ?_
            clear hK K
            refine wpAnyIn_ready (rs := [0, 2]) (by kernel_rfl) (by simp) ?_
            refine AllReadyIn.cons rfl (fun K hK => ?_) ?_
            · go_simp
              refine hK _ _ ?_
              clear hK K
              refine wpAnyIn_ready (rs := [2]) (by kernel_rfl) (by simp) ?_
              refine AllReadyIn.cons rfl (fun K hK => ?_) ?_
              · go_simp
                refine hK _ _ ?_
                clear hK K
                refine wpAnyIn_ready (rs := [4]) (by kernel_rfl) (by simp) ?_
                refine AllReadyIn.cons rfl (fun K hK => ?_) ?_
                · refine step_append_eq rfl (.tmp 26) (.tmp 27) 27 rfl _ _ _ rfl rfl happ (fun _ => trivial) ?_
                  refine hK _ _ ?_
                  clear hK K
                  refine wpAnyIn_ready (rs := [5]) (by kernel_rfl) (by simp) ?_
                  refine AllReadyIn.cons rfl (fun K hK => ?_) ?_
                  · go_simp
                    refine hR.mono ?_
                    rintro e Z ⟨bb, rfl, hz, hj1, hj2⟩
                    refine hK _ _ ?_
                    clear hK K
                    refine wpAnyIn_ready (rs := [6]) (by kernel_rfl) (by simp) ?_
                    refine AllReadyIn.cons rfl (fun K hK => ?_) ?_
                    · go_simp
                      refine hK _ _ ?_
                      clear hK K
                      refine wpAnyIn_done (by kernel_rfl) ?_ _
                      cases bb with
                      | true =>
                        gi_wp2
                        exact FIN.out Z hz (hj1 (by simp))
                      | false =>
                        gi_wp2
                        obtain ⟨q1, -, q2⟩ := FINX.out Z hz (hj2 (by simp))
                        exact ⟨q1, rfl, q2⟩
                    exact AllReadyIn.nil
                  exact AllReadyIn.nil
                exact AllReadyIn.nil
              exact AllReadyIn.nil
            refine AllReadyIn.cons rfl (fun K hK => ?_) ?_
            · go_simp
              refine hK _ _ ?_
              clear hK K
              refine wpAnyIn_ready (rs := [0, 4]) (by kernel_rfl) (by simp) ?_
              refine AllReadyIn.cons rfl (fun K hK => ?_) ?_
              · go_simp
                refine hK _ _ ?_
                clear hK K
                refine wpAnyIn_ready (rs := [4]) (by kernel_rfl) (by simp) ?_
                refine AllReadyIn.cons rfl (fun K hK => ?_) ?_
                · refine step_append_eq rfl (.tmp 26) (.tmp 27) 27 rfl _ _ _ rfl rfl happ (fun _ => trivial) ?_
                  refine hK _ _ ?_
                  clear hK K
                  refine wpAnyIn_ready (rs := [5]) (by kernel_rfl) (by simp) ?_
                  refine AllReadyIn.cons rfl (fun K hK => ?_) ?_
                  · go_simp
                    refine hR.mono ?_
                    rintro e Z ⟨bb, rfl, hz, hj1, hj2⟩
                    refine hK _ _ ?_
                    clear hK K
                    refine wpAnyIn_ready (rs := [6]) (by kernel_rfl) (by simp) ?_
                    refine AllReadyIn.cons rfl (fun K hK => ?_) ?_
                    · go_simp
                      refine hK _ _ ?_
                      clear hK K
                      refine wpAnyIn_done (by kernel_rfl) ?_ _
                      cases bb with
                      | true =>
                        gi_wp2
                        exact FIN.out Z hz (hj1 (by simp))
                      | false =>
                        gi_wp2
                        obtain ⟨q1, -, q2⟩ := FINX.out Z hz (hj2 (by simp))
                        exact ⟨q1, rfl, q2⟩
                    exact AllReadyIn.nil
                  exact AllReadyIn.nil
                exact AllReadyIn.nil
              refine AllReadyIn.cons rfl (fun K hK => ?_) ?_
              · refine step_append_eq rfl (.tmp 26) (.tmp 27) 27 rfl _ _ _ rfl rfl happ (fun _ => trivial) ?_
                refine hK _ _ ?_
                clear hK K
                refine wpAnyIn_ready (rs := [0]) (by kernel_rfl) (by simp) ?_
                refine AllReadyIn.cons rfl (fun K hK => ?_) ?_
                · go_simp
                  refine hK _ _ ?_
                  clear hK K
                  refine wpAnyIn_ready (rs := [5]) (by kernel_rfl) (by simp) ?_
                  refine AllReadyIn.cons rfl (fun K hK => ?_) ?_
                  · go_simp
                    refine hR.mono ?_
                    rintro e Z ⟨bb, rfl, hz, hj1, hj2⟩
                    refine hK _ _ ?_
                    clear hK K
                    refine wpAnyIn_ready (rs := [6]) (by kernel_rfl) (by simp) ?_
                    refine AllReadyIn.cons rfl (fun K hK => ?_) ?_
                    · go_simp
                      refine hK _ _ ?_
                      clear hK K
                      refine wpAnyIn_done (by kernel_rfl) ?_ _
                      cases bb with
                      | true =>
                        gi_wp2
                        exact FIN.out Z hz (hj1 (by simp))
                      | false =>
                        gi_wp2
                        obtain ⟨q1, -, q2⟩ := FINX.out Z hz (hj2 (by simp))
                        exact ⟨q1, rfl, q2⟩
                    exact AllReadyIn.nil
                  exact AllReadyIn.nil
                exact AllReadyIn.nil
              exact AllReadyIn.nil
            exact AllReadyIn.nil
          exact AllReadyIn.nil
          -- END
        case done =>
          rintro Z ⟨h1, h2, h3⟩ hD
          have hZ := (Array.getElem?_eq_some_iff.1 hD).1
          have HST := Lib.hid (show (effTo n (k : Int) (j + 1)).length = (effTo n (k : Int) j).length + (effB (n + 1) ((k : Int) - (j : Int))).length by rw [effTo_step, List.length_append, List.length_map])
          have HM := Lib.hid (h1.more (by omega) (by omega) hD)
          have H3 := Lib.hid h3
          clear h1 h2 h3 hD
          gi_wp2
          exact ⟨⟨j + 1, w2.heap.size :: Ds, w2.heap.size + 1, _, _, _, _, _, _, _, _, _, _, _, _, _, _, _, _, _, _, _, _, by omega, by omega, HM.out, by rw [HST.out]; exact H3.out, rfl⟩, by simp [intOf]; omega⟩
        case stop =>
          rintro c t Z ⟨rfl, h1, t', h2⟩ hD
          have HM := Lib.hid (h1.more (by omega) (by omega) hD)
          have H2 := Lib.hid h2
          clear h1 h2 hD
          gi_wp2
          exact marks_leave (B := W.heap.size) (fun h => (by cases h)) (w2.heap.size :: Ds) Z HM.out.nodup (fun D hD => ⟨(HM.out.marks D hD).1, (HM.out.marks D hD).2.2⟩) (fun w' hw' => ⟨_, results_none rfl _ _ _, ⟨_, rfl⟩, .inr ⟨t', HJx.out _ _ _ H2.out hw'⟩⟩)
      · have z1 : ¬ ((j : Int) < (k : Int) + 1) := by omega
        have hjk : j = k + 1 := by omega
        have H3 := Lib.hid (show J (effB (n + 2) (k : Int)).length wr by rw [effB_two, ← hjk]; exact HJJ.out)
        clear hjk HJJ
        gi_wp2
        exact marks_leave (B := W.heap.size) (fun h => (by cases h)) Ds wr HI.out.nodup (fun D hD => ⟨(HI.out.marks D hD).1, (HI.out.marks D hD).2.2⟩) (fun w' hw' => ⟨_, results_none rfl _ _ _, ⟨_, rfl⟩, .inl (HJ.out _ _ _ H3.out hw')⟩)
end Go.Proofs.Ytmehdngibbilaaa
