/- effectiveIn: the iterator over the effective divisors of a class. -/
import Derived.Test.YtklaanohbpcifaaEfo
import Derived.Test.YtklaanohbpcifaaBL
import Derived.Test.YtklaanohbpcifaaBK
import Derived.Test.YtklaanohbpcifaaBJ
namespace Go.Proofs.Ytklaanohbpcifaa
open Go.RowKit
attribute [local go_sem] Oper.semAt_some

theorem effectiveIn_any (N : Int) (A D : Option Addr) (m c k cd : Nat) (w : World) : Calls Try.prog 25 #[.agg #[.int .i64 N, .slice A m c], .slice D k cd] w fun e w' =>
    e = .returned (.func (.func 37) #[] #[.pointer (some ⟨w.heap.size, 0, none⟩), .pointer (some ⟨w.heap.size + 1, 0, none⟩)]) ∧ w' = (w.alloc (.cells #[.int .i64 N, .slice A m c] 30)).alloc (.cells #[.slice D k cd] 25) := by
  go_enter Try.func25, Try.ntmps25
  go_wp2
  go_ret
  exact ⟨rfl, rfl⟩
/-- what reduce gives, as lists; its board is a board -/
theorem implRd3 (A D : Option Addr) (c cd M : Nat) (es : List (Int × Int)) (d : List Int) (w : World) (hd : divB 60 (M : Int) es d = true) (hE : EdgeS w w.heap.size A es) (hS : IntS w w.heap.size D d) :
    Calls Try.prog 38 #[.agg #[.int .i64 (M : Int), .slice A es.length c], .slice D d.length cd, .int .i64 0] w (fun e w' => ∃ pr pb g cg gs : Nat, e = .returned (.pointer (some ⟨pr, 0, none⟩)) ∧ RedP w' w.heap.size pr pb g cg gs M (redR (M : Int) es d 0) (scrR (M : Int) es d 0) ∧ (∃ cur, w'.heap[pb]? = some (.cells cur 70 (0, 0))) ∧ Below w.heap.size w w') := by
  obtain ⟨M', hM, h0, h6, hn, hl, hes, hdb, hc⟩ := div_limsB hd
  obtain rfl : M' = M := by omega
  refine (reduce_any A D c cd M' 0 es d w h0 h6 h0 hl hn hes hdb hc.cut hE hS).mono ?_
  rintro e w' ⟨pr, pb, g, cg, gs, f, rfl, hf, hr, hN, hb⟩
  have h1 := red_same hf h0 hn hdb hes
  have hb0 := div_burn hd
  have hx := hr.chips.own (base := w.heap.size) hN.n1
  have hs := hr.scr.own (base := w.heap.size) hN.n2
  rw [h1.2] at hx
  rw [h1.1] at hs
  refine ⟨pr, pb, g, cg, gs, rfl, ⟨by rw [hr.red.cell]; rfl, by rw [hr.red.cell]; rfl, by rw [hr.brd.cell]; rfl, ?_, ?_⟩, ⟨_, hr.brd⟩, hb⟩
  · rw [redR_t hb0, Int.toNat_natCast]
    exact hx
  · rw [scrR_t hb0, Int.toNat_natCast]
    exact hs
/-- the first of the class behind t of all -/
theorem ein_at {N : Int} {es : List (Int × Int)} {d r : List Int} {L : List (List Int)} {t : Nat} (h : L[t]? = some r) (he : redR N es d 0 = redR N es r 0) : (einL N es d L)[(einL N es d (L.take t)).length]? = some r := by
  have h1 : L = L.take t ++ r :: L.drop (t + 1) := by
    have hl := (List.getElem?_eq_some_iff.1 h)
    obtain ⟨hl, hr⟩ := hl
    rw [← hr, ← List.drop_eq_getElem_cons hl, List.take_append_drop]
  have h2 : einL N es d L = einL N es d (L.take t) ++ r :: einL N es d (L.drop (t + 1)) := by
    conv => lhs; rw [h1]
    unfold einL
    rw [List.filter_append, List.filter_cons_of_pos (by simpa using he)]
  rw [h2, List.getElem?_append_right (Nat.le_refl _), Nat.sub_self]
  rfl
/-- what the closure holds from round to round -/
structure EfiI (W Z : World) (q l b1 bg pr pb g cg M : Nat) (A : Option Addr) (c : Nat) (es : List (Int × Int)) (xs : List Int) : Prop where
  low : ∀ k, k < q → Z.heap[k]? = W.heap[k]?
  gb : Z.heap[b1]? = some (.cells #[.int .i64 (M : Int), .slice A es.length c] 30 (0, 0))
  yb : Boxed Z W.heap.size 64 (.func (.yield l) #[] #[])
  gl : Boxed Z bg 65 (.pointer (some ⟨pr, 0, none⟩))
  c0 : Z.cell? ⟨pr, 0, none⟩ = some (.pointer (some ⟨pb, 0, none⟩))
  bd : ∃ cur, Z.heap[pb]? = some (.cells cur 70 (0, 0)) ∧ cur[1]? = some (.slice (some ⟨g, 0, none⟩) M cg)
  ch : g < Z.heap.size ∧ ∀ (i : Nat) (z : Int), xs[i]? = some z → Z.cell? ⟨g, i, none⟩ = some (.int .i64 z)
section
variable {W X Y : World} {q l b1 bg pr pb g cg M c B n : Nat} {A : Option Addr} {es : List (Int × Int)} {xs : List Int}
theorem cell_block {b : Nat} {v : Value} (h : X.cell? ⟨b, 0, none⟩ = some v) : b < X.heap.size := World.block_lt_of_cell? X _ h
theorem EfiI.stp (h : EfiI W X q l b1 bg pr pb g cg M A c es xs) (hs : Stp B X Y) (hB : q ≤ B) (hX : q ≤ X.heap.size) : EfiI W Y q l b1 bg pr pb g cg M A c es xs :=
  ⟨fun k hk => ((hs.below hB hX).block k hk).trans (h.low k hk), hs.keep _ _ h.gb (.inl rfl), box_stp h.yb hs, box_stp h.gl hs, Stp.cell h.c0 hs, by
    obtain ⟨cur, h1, h2⟩ := h.bd
    exact ⟨cur, hs.keep _ _ h1 (.inl rfl), h2⟩, ⟨Nat.lt_of_lt_of_le h.ch.1 hs.size, fun i z hz => Stp.cell (h.ch.2 i z hz) hs⟩⟩
theorem ptr_rnd {b : Nat} {a : Option Addr} (h : X.cell? ⟨b, 0, none⟩ = some (.pointer a)) (hs : Rnd q n X Y) : Y.heap[b]? = X.heap[b]? := by
  obtain ⟨cur, t, f, hb⟩ := cells_of h
  rw [hb]
  refine hs.keep b _ hb (.inl ⟨rfl, ?_⟩)
  rintro ⟨c, t', f', e, ⟨-, A, k, n, hc⟩ | ⟨-, k, hc⟩⟩
  all_goals
    injection e with e _ _
    subst e
    have hb' : X.heap[b]? = some (.cells cur t f) := hb
    have h2 : X.cell? ⟨b, 0, none⟩ = cur[0]? := by simp [World.cell?, hb']
    rw [h2, hc] at h
    cases h
theorem EfiI.rnd (h : EfiI W X q l b1 bg pr pb g cg M A c es xs) (hs : Rnd q n X Y) (hX : q ≤ X.heap.size) (hx : 0 < xs.length) : EfiI W Y q l b1 bg pr pb g cg M A c es xs :=
  ⟨fun k hk => by
    refine Eq.trans ?_ (h.low k hk)
    have hl : k < X.heap.size := by omega
    rw [hs.keep k _ (Array.getElem?_eq_getElem hl) (.inr (.inr hk)), Array.getElem?_eq_getElem hl], blk_rnd h.gb hs (by decide) (by decide), box_rnd h.yb hs (by decide) (by decide), box_rnd h.gl hs (by decide) (by decide), (World.cell?_of_block (ptr_rnd h.c0 hs)).trans h.c0, by
    obtain ⟨cur, h1, h2⟩ := h.bd
    exact ⟨cur, blk_rnd h1 hs (by decide) (by decide), h2⟩, by
    have h0 := h.ch.2 0 (xs[0]'hx) (List.getElem?_eq_getElem hx)
    have hb := int_rnd h0 hs
    exact ⟨Nat.lt_of_lt_of_le h.ch.1 hs.size, fun i z hz => (World.cell?_of_block (a := ⟨g, i, none⟩) hb).trans (h.ch.2 i z hz)⟩⟩
theorem EfiI.b1c (h : EfiI W X q l b1 bg pr pb g cg M A c es xs) : X.cell? ⟨b1, 0, none⟩ = some (.int .i64 (M : Int)) ∧ X.cell? ⟨b1, 1, none⟩ = some (.slice A es.length c) := by
  have h1 := h.gb
  constructor <;> simp [World.cell?, h1]
theorem EfiI.bdc (h : EfiI W X q l b1 bg pr pb g cg M A c es xs) : X.cell? ⟨pb, 1, none⟩ = some (.slice (some ⟨g, 0, none⟩) M cg) := by
  obtain ⟨cur, h1, h2⟩ := h.bd
  simp [World.cell?, h1, h2]
end
/-- an edge list below q lies on wherever what lay below q lies on -/
theorem EdgeS.low {w w' : World} {q : Nat} {A : Option Addr} {es : List (Int × Int)} (h : EdgeS w q A es) (hk : ∀ k, k < q → w'.heap[k]? = w.heap[k]?) (hq : q ≤ w'.heap.size) : EdgeS w' w'.heap.size A es :=
  EdgeS.keep h (fun p hp => World.cell?_of_block (hk p.block hp)) hq
theorem IntS.low {w w' : World} {q : Nat} {A : Option Addr} {xs : List Int} (h : IntS w q A xs) (hk : ∀ k, k < q → w'.heap[k]? = w.heap[k]?) (hq : q ≤ w'.heap.size) : IntS w' w'.heap.size A xs :=
  IntS.keep h (fun p hp => World.cell?_of_block (hk p.block hp)) hq
theorem keep3 {w0 W W' : World} {p1 p2 p3 : Addr} {a b c : Value} (h : W.cell? p1 = some a ∧ W.cell? p2 = some b ∧ W.cell? p3 = some c ∧ Below w0.heap.size w0 W) (hb : Below W.heap.size W W') :
    W'.cell? p1 = some a ∧ W'.cell? p2 = some b ∧ W'.cell? p3 = some c ∧ Below w0.heap.size w0 W' :=
  ⟨(hb.cell (World.block_lt_of_cell? W _ h.1)).trans h.1, (hb.cell (World.block_lt_of_cell? W _ h.2.1)).trans h.2.1, (hb.cell (World.block_lt_of_cell? W _ h.2.2.1)).trans h.2.2.1, h.2.2.2.trans (hb.mono h.2.2.2.size)⟩
theorem keep5 {w0 W W' : World} {p1 p2 p3 p4 p5 : Addr} {a b c d e : Value} (h : W.cell? p1 = some a ∧ W.cell? p2 = some b ∧ W.cell? p3 = some c ∧ W.cell? p4 = some d ∧ W.cell? p5 = some e ∧ Below w0.heap.size w0 W) (hb : Below W.heap.size W W') :
    W'.cell? p1 = some a ∧ W'.cell? p2 = some b ∧ W'.cell? p3 = some c ∧ W'.cell? p4 = some d ∧ W'.cell? p5 = some e ∧ Below w0.heap.size w0 W' := by
  obtain ⟨h1, h2, h3, h4, h5, h6⟩ := h
  have k : ∀ {p : Addr} {v : Value}, W.cell? p = some v → W'.cell? p = some v := fun hp => (hb.cell (World.block_lt_of_cell? W _ hp)).trans hp
  exact ⟨k h1, k h2, k h3, k h4, k h5, h6.trans (hb.mono h6.size)⟩
set_option maxRecDepth 100000 in
set_option maxHeartbeats 8000000 in
theorem efi_itr (q M b1 b2 : Nat) (A D : Option Addr) (c cd : Nat) (es : List (Int × Int)) (d : List Int) (w : World) (hd : divB 60 (M : Int) es d = true) (hk7 : degB d d.length ≤ 7) (hg1 : w.heap[b1]? = some (.cells #[.int .i64 (M : Int), .slice A es.length c] 30 (0, 0)))
    (hg2 : Boxed w b2 25 (.slice D d.length cd)) (hqw : q ≤ w.heap.size) (hE : EdgeS w q A es) (hS : IntS w q D d) :
    Itr q 37 #[.pointer (some ⟨b1, 0, none⟩), .pointer (some ⟨b2, 0, none⟩)] (einB (M : Int) es d) w := by
  intro l J Jx W hq hW hJ hJx hY h0
  have k1 : W.heap[b1]? = some (.cells #[.int .i64 (M : Int), .slice A es.length c] 30 (0, 0)) := (hW.block b1 (Array.getElem?_eq_some_iff.1 hg1).1).trans hg1
  have k2 : Boxed W b2 25 (.slice D d.length cd) := (hW.block b2 hg2.lt).trans hg2
  have hlw : ∀ k, k < q → W.heap[k]? = w.heap[k]? := fun k hk => hW.block k (by omega)
  have HE := Lib.hid (show EdgeS W q A es from EdgeS.keep hE (fun p hp => World.cell?_of_block (hlw p.block hp)) (Nat.le_refl _))
  have HS := Lib.hid (show IntS W q D d from IntS.keep hS (fun p hp => World.cell?_of_block (hlw p.block hp)) (Nat.le_refl _))
  have HY := Lib.hid hY
  have HJ := Lib.hid hJ
  have HJx := Lib.hid hJx
  have HJ0 := Lib.hid h0
  have K1 := Lib.hid k1
  have K2 := Lib.hid k2
  have hm := div_limsB hd
  obtain ⟨M', hM, hM0, hM6, hn12, hdl, hes, hdb, hcn⟩ := hm
  obtain rfl : M' = M := by omega
  have HEX := red_ex A D M' es d W hd (EdgeS.low HE.out (fun _ _ => rfl) hq) (IntS.low HS.out (fun _ _ => rfl) hq)
  have HWN := Lib.hid (win_red hd HEX)
  have HOK := Lib.hid (ein_yes hd hk7)
  have hl1 := Lib.hid (red_len hd).1
  have hsum := (red_facts hd HEX).2.2.1
  have HP := fun (W' : World) (h : Below W.heap.size W W') => Lib.hid (implRd3 A D c cd M' es d W' hd (EdgeS.low HE.out (fun k hk => h.block k (by omega)) (Nat.le_trans hq h.size)) (IntS.low HS.out (fun k hk => h.block k (by omega)) (Nat.le_trans hq h.size)))
  have hgr := (divB_all hd).1
  have hDG := fun (W' : World) (h : Below W.heap.size W W') => implDeg D cd d W' (by omega) (IntS.low HS.out (fun k hk => h.block k (by omega)) (Nat.le_trans hq h.size))
  obtain ⟨x, hx⟩ : ∃ x, x = redR (M' : Int) es d 0 := ⟨_, rfl⟩
  obtain ⟨s, hs⟩ : ∃ x, x = scrR (M' : Int) es d 0 := ⟨_, rfl⟩
  rw [← hx] at HWN hl1 hsum
  rw [← hx, ← hs] at HP
  have hpos : posAll x = true → 0 ≤ degB d d.length := fun h => by
    rw [← hsum]
    exact sum_pos (posAll_iff.1 h)
  obtain ⟨k, hke⟩ : ∃ k, k = degB d d.length := ⟨_, rfl⟩
  have HEB := Lib.hid (fun (h : winB (M' : Int) es d = true) => (einB_t (ein_yes hd hk7) h))
  have HEN := Lib.hid (fun (h : winB (M' : Int) es d = false) => (einB_n h : einB (M' : Int) es d = []))
  rw [← hke] at hDG hk7 hpos HEB
  rw [Int.toNat_natCast] at HEB
  have HX := Lib.hid hx
  have hbY : Below W.heap.size W (W.alloc (.cells #[.func (.yield l) #[] #[]] 64)) := (Below.refl _ _).alloc (Nat.le_refl _) _
  have HM0 := Lib.hid hM0
  have HM6 := Lib.hid hM6
  have HGR := Lib.hid hgr
  have HK7 := Lib.hid hk7
  rw [hdl] at HP hDG
  have c1 : W.cell? ⟨b1, 0, none⟩ = some (.int .i64 (M' : Int)) := by simp [World.cell?, k1]
  have c2 : W.cell? ⟨b1, 1, none⟩ = some (.slice A es.length c) := by simp [World.cell?, k1]
  have c3 := k2.cell
  rw [hdl] at c3
  have l1 : b1 < W.heap.size := (Array.getElem?_eq_some_iff.1 k1).1
  have l2 := k2.lt
  clear hg1 hg2 hqw hE hS hY hJ hJx h0 hW hlw hd hes hdb hcn hx hs hke hsum hgr HEX hM0 hM6 hn12 hdl hk7 k1 k2
  cases hps : posAll x with
  | false =>
    rw [hps] at HWN
    rw [HEN.out HWN.out]
    have HPS := Lib.hid hps
    clear hps hpos
    refine callsIn_wide.1 (callsIn_of_wp_marks (n := 9) Try.func37 rfl trivial (wpIn_wide.2 ?_) rfl)
    simp only [Try.ntmps37, List.size_toArray, List.length_cons, List.length_nil, Nat.reduceAdd, Nat.reduceSub, Array.replicate_succ, Array.replicate_zero, List.push_toArray, List.append_toArray, List.nil_append, List.cons_append]
    go_wp2_with fail
    refine (HP _ hbY).out.mono ?_
    rintro e w2 ⟨pr, pb, g, cg, gs, rfl, hr, hbd, hb2⟩
    obtain ⟨w3, hw3⟩ : ∃ z, z = w2.alloc (.cells #[.pointer (some ⟨pr, 0, none⟩)] 65) := ⟨_, rfl⟩
    have hb3 : Below w2.heap.size w2 w3 := by rw [hw3]; exact (Below.refl _ _).alloc (Nat.le_refl _) _
    have hgl : Boxed w3 w2.heap.size 65 (.pointer (some ⟨pr, 0, none⟩)) := by rw [hw3]; exact Boxed.new _ _ _
    have hr3 := hr.next hb3
    have hb13 : Below W.heap.size W w3 := (hbY.trans (hb2.mono (by simp))).trans (hb3.mono (Nat.le_trans (by simp) hb2.size))
    have hwn := isWon_any _ pr pb g cg gs M' x s w3 hl1.out (by have := HM6.out; omega) hr3
    rw [HPS.out] at hwn
    have HW := Lib.hid hwn
    have HW3 := Lib.hid hw3
    have HB := Lib.hid hb13
    clear hwn hr hr3 hb3 hb13 hgl hbd hw3 hb2 HP hDG c1 c2 c3
    go_wp2_with fail
    rw [← HW3.out]
    refine HW.out.mono ?_
    rintro e w4 ⟨rfl, hb4⟩
    have HB4 := Lib.hid (HB.out.trans (hb4.mono HB.out.size))
    clear hb4
    go_wp2
    exact ⟨_, results_none rfl _ _ _, ⟨_, rfl⟩, .inl (HJ.out _ _ _ HJ0.out (Stp.of_below HB4.out _))⟩
  | true =>
    rw [hps] at HWN
    rw [HEB.out HWN.out] at HY ⊢
    have HPS := Lib.hid hps
    have hk0 := hpos hps
    clear hps hpos
    obtain ⟨kk, rfl⟩ : ∃ kk : Nat, k = (kk : Int) := ⟨k.toNat, by omega⟩
    have HKK := Lib.hid (show kk ≤ 8 by have := HK7.out; omega)
    obtain ⟨m, rfl⟩ : ∃ m, M' = m + 1 := ⟨M' - 1, by have := HM0.out; omega⟩
    obtain ⟨L, hL⟩ : ∃ L, L = effB (m + 1) (kk : Int) := ⟨_, rfl⟩
    have HL := Lib.hid hL
    have HEO := Lib.hid (efo_itr q m kk)
    rw [← hL] at HEO HY ⊢
    clear hL hk0
    refine callsIn_wide.1 (callsIn_of_wp_marks (n := 9) Try.func37 rfl trivial (wpIn_wide.2 ?_) rfl)
    simp only [Try.ntmps37, List.size_toArray, List.length_cons, List.length_nil, Nat.reduceAdd, Nat.reduceSub, Array.replicate_succ, Array.replicate_zero, List.push_toArray, List.append_toArray, List.nil_append, List.cons_append]
    go_wp2_with fail
    refine (HP _ hbY).out.mono ?_
    rintro e w2 ⟨pr, pb, g, cg, gs, rfl, hr, hbd, hb2⟩
    obtain ⟨w3, hw3⟩ : ∃ z, z = w2.alloc (.cells #[.pointer (some ⟨pr, 0, none⟩)] 65) := ⟨_, rfl⟩
    have hb3 : Below w2.heap.size w2 w3 := by rw [hw3]; exact (Below.refl _ _).alloc (Nat.le_refl _) _
    have hgl : Boxed w3 w2.heap.size 65 (.pointer (some ⟨pr, 0, none⟩)) := by rw [hw3]; exact Boxed.new _ _ _
    have hr3 := hr.next hb3
    have hb13 : Below W.heap.size W w3 := (hbY.trans (hb2.mono (by simp))).trans (hb3.mono (Nat.le_trans (by simp) hb2.size))
    have hwn := isWon_any _ pr pb g cg gs (m + 1) x s w3 hl1.out (by have := HM6.out; omega) hr3
    rw [HPS.out] at hwn
    have HW := Lib.hid hwn
    have HW3 := Lib.hid hw3
    have hsz3 : w3.heap.size = w2.heap.size + 1 := by rw [hw3]; simp
    obtain ⟨cur, hcur⟩ := hbd
    have hcur3 : w3.heap[pb]? = some (.cells cur 70 (0, 0)) := (hb3.block pb (Array.getElem?_eq_some_iff.1 hcur).1).trans hcur
    have hcur1 : cur[1]? = some (.slice (some ⟨g, 0, none⟩) (m + 1) cg) := by
      have := hr3.b1
      simpa [World.cell?, hcur3] using this
    have hxs := hr3.xs (by rw [hl1.out]; omega)
    obtain ⟨g', o', hgo, -, hg', hgc⟩ := hxs
    obtain ⟨rfl, rfl⟩ : g = g' ∧ 0 = o' := by simpa using hgo
    have HI3 := Lib.hid (show EfiI W w3 q l b1 w2.heap.size pr pb g cg (m + 1) A c es x from
      ⟨fun k hk => hb13.block k (by omega), (hb13.block b1 l1).trans K1.out, by
        have h := Boxed.new W 64 (.func (.yield l) #[] #[])
        have h1 : w2.heap[W.heap.size]? = _ := (hb2.block _ h.lt).trans h
        exact (hb3.block _ (Array.getElem?_eq_some_iff.1 h1).1).trans h1, hgl, hr3.c0, ⟨cur, hcur3, hcur1⟩, ⟨hg', fun i z hz => by have := (hgc i z hz).1; rwa [Nat.zero_add] at this⟩⟩)
    have HB := Lib.hid hb13
    have hq3 : q ≤ w3.heap.size := Nat.le_trans hq hb13.size
    have c1 := HI3.out.b1c.1
    have c2 := HI3.out.b1c.2
    have c3 : w3.cell? ⟨b2, 0, none⟩ = some (.slice D (m + 1) cd) := (hb13.cell (p := ⟨b2, 0, none⟩) l2).trans c3
    clear hwn hr hr3 hb3 hgl hw3 hb2 HP hcur hcur3 hcur1 hgo hg' hgc hb13
    go_wp2_with fail
    rw [← HW3.out]
    refine HW.out.mono ?_
    rintro e w4 ⟨rfl, hb4⟩
    have HI4 := Lib.hid (HI3.out.stp (Stp.of_below hb4 w3.heap.size) hq3 hq3)
    have HB4 := Lib.hid (HB.out.trans (hb4.mono HB.out.size))
    have c4 : w4.cell? ⟨b2, 0, none⟩ = some (.slice D (m + 1) cd) := (hb4.cell (World.block_lt_of_cell? w3 _ c3)).trans c3
    have c1 := HI4.out.b1c.1
    have c2 := HI4.out.b1c.2
    have s4 := hb4.size
    clear hb4 c3 HI3 HB HW HW3
    have HP0 := Lib.hid (show w4.drew.cell? ⟨b1, 0, none⟩ = some (.int .i64 ((m + 1 : Nat) : Int)) ∧ w4.drew.cell? ⟨b2, 0, none⟩ = some (.slice D (m + 1) cd) ∧ w4.drew.cell? ⟨b1, 1, none⟩ = some (.slice A es.length c) ∧ Below w4.heap.size w4 w4.drew from ⟨c1, c4, c2, (Below.refl _ _).drew⟩)
    have DG := fun (W' : World) (h : Below w4.heap.size w4 W') => Lib.hid (hDG W' (HB4.out.trans (h.mono HB4.out.size)))
    clear hDG
    go_wp2_with fail
    go_region_held3 (fun w' => w'.cell? ⟨b1, 0, none⟩ = some (.int .i64 ((m + 1 : Nat) : Int)) ∧ w'.cell? ⟨b2, 0, none⟩ = some (.slice D (m + 1) cd) ∧ w'.cell? ⟨b1, 1, none⟩ = some (.slice A es.length c) ∧ Below w4.heap.size w4 w')
      (first
        | with_reducible exact HP0.out
        | with_reducible exact keep3 (by assumption) hb5
        | exact keep3 (by assumption) (((Below.refl _ _).alloc (Nat.le_refl _) _).alloc (by simp) _))
      (first
        | (go_at_call 35; refine (DG _ (And.right (And.right (And.right (by assumption))))).out.mono ?_; rintro e w5 ⟨rfl, hb5⟩)
        | (go_at_call 40; refine (effectiveOf_any _ _ _).mono ?_; rintro e w6 ⟨rfl, rfl⟩))
    obtain ⟨w6, hw6⟩ : ∃ z, z = (w5.alloc (.cells #[.int .i64 ((m : Int) + 1)] 3)).alloc (.cells #[.int .i64 (kk : Int)] 3) := ⟨_, rfl⟩
    have hb46 : Below w4.heap.size w4 w6 := by rw [hw6]; exact And.right (And.right (And.right (by assumption)))
    have hx1 : Boxed w6 w5.heap.size 3 (.int .i64 ((m + 1 : Nat) : Int)) := by rw [hw6]; exact (Boxed.new _ _ _).alloc _
    have hx2 : Boxed w6 (w5.heap.size + 1) 3 (.int .i64 (kk : Int)) := by
      have h := Boxed.new (w5.alloc (.cells #[.int .i64 ((m : Int) + 1)] 3)) 3 (.int .i64 (kk : Int))
      rw [World.size_alloc] at h
      rw [hw6]
      exact h
    have HIT := HEO.out w5.heap.size (w5.heap.size + 1) w6 HM6.out HKK.out hx1 hx2
    have HI6 := Lib.hid (HI4.out.stp (Stp.of_below hb46 w4.heap.size) (by omega) (by omega))
    have HJ6 := Lib.hid (HJ.out _ _ _ HJ0.out (Stp.of_below (HB4.out.trans (hb46.mono HB4.out.size)) _))
    have hq6 : q ≤ w6.heap.size := by have := hb46.size; omega
    have hW6 : W.heap.size ≤ w6.heap.size := Nat.le_trans HB4.out.size hb46.size
    have HE6 := Lib.hid (show ∀ Z, (∀ k, k < q → Z.heap[k]? = W.heap[k]?) → q ≤ Z.heap.size → EdgeS Z Z.heap.size A es from fun Z h1 h2 => EdgeS.low HE.out h1 h2)
    rw [← hw6]
    clear hw6 hb46 hx1 hx2 hb5 DG HP0 HB4 c1 c2 c4 HEO HJ0 HWN HPS HOK HEB HEN HS HE K1 K2
    go_wp2
    refine wpIn_wide.1 (range_it (n := 9) (q := q) (L := L) rfl (enters_of Try.func52 (by kernel_rfl) rfl) HIT hq6 (Below.refl _ _)
      (fun t Z => EfiI W Z q l b1 w2.heap.size pr pb g cg (m + 1) A c es x ∧ J (einL ((m + 1 : Nat) : Int) es d (L.take t)).length Z)
      (fun c _ Z => c = .ret ∧ ∃ t, Jx t Z) ?abd ?abdx ⟨HI6.out, HJ6.out⟩
      (fun v => { tmps := #[.func (.yield l) #[] #[], .pointer (some ⟨b1, 0, none⟩), .pointer (some ⟨b2, 0, none⟩), .pointer (some ⟨W.heap.size, 0, none⟩), .pointer (some ⟨w2.heap.size, 0, none⟩), v, undef, .agg #[.int .i64 ((m : Int) + 1), .slice A es.length c], .slice D (m + 1) cd,
        .pointer (some ⟨pr, 0, none⟩), .pointer (some ⟨pr, 0, none⟩), .bool true, .bool false, .pointer (some ⟨b1, 0, none⟩), .int .i64 ((m : Int) + 1), .slice D (m + 1) cd, .int .i64 (kk : Int),
        .func (.func 52) #[] #[.pointer (some ⟨w5.heap.size, 0, none⟩), .pointer (some ⟨w5.heap.size + 1, 0, none⟩)], v, undef, undef, undef, undef, undef, undef, undef, undef, undef, undef, undef, undef, undef, undef, undef, undef, undef, undef, undef, undef, undef, undef, undef, undef], defers := [] }) ?assign ?body ?done ?stop)
    case abd =>
      rintro t X Y ⟨h1, h2⟩ hs
      exact ⟨h1.stp hs hq6 (by have := h1.yb.lt; omega), HJ.out _ _ _ h2 (hs.mono hW6)⟩
    case abdx =>
      rintro c t X Y ⟨h1, t', h2⟩ hs
      exact ⟨h1, t', HJx.out _ _ _ h2 (hs.mono hW6)⟩
    case assign =>
      intro l2 v Wz K hK
      gi_wp2
      exact hK
    case body =>
      -- BODY
      rintro l2 t b cc r X Y hl2 ⟨h1, h2⟩ hs hr ⟨hfb, hfo⟩
      have hqX : q ≤ X.heap.size := by have := h1.yb.lt; omega
      have e1 := h1.stp hs hq6 hqX
      have hqY : q ≤ Y.heap.size := Nat.le_trans hqX hs.size
      have hrm : r ∈ effB (m + 1) (kk : Int) := by rw [← HL.out]; exact List.mem_of_getElem? hr
      have hrl := (effB_mem _ _ r hrm).1
      have hdv := eff_div HGR.out HK7.out hrm
      have hcnt := einL_step (N := ((m + 1 : Nat) : Int)) (es := es) (d := d) hr
      have hea := ein_at (N := ((m + 1 : Nat) : Int)) (es := es) (d := d) hr
      have HDR := Lib.hid (red_len hdv).1
      have RD := fun (W' : World) (h : Below Y.heap.size Y W') => Lib.hid (show Calls Try.prog 38 #[.agg #[.int .i64 ((m + 1 : Nat) : Int), .slice A es.length c], .slice (some ⟨b, 0, none⟩) (m + 1) cc, .int .i64 0] W' (fun e w' => ∃ pr pb g cg gs : Nat, e = .returned (.pointer (some ⟨pr, 0, none⟩)) ∧ RedP w' W'.heap.size pr pb g cg gs (m + 1) (redR ((m + 1 : Nat) : Int) es r 0) (scrR ((m + 1 : Nat) : Int) es r 0) ∧ Below W'.heap.size W' w') by
        have h9 := implRd2 A (some ⟨b, 0, none⟩) c cc (m + 1) es r W' hdv (HE6.out W' (fun k hk => (h.block k (by omega)).trans (e1.low k hk)) (Nat.le_trans hqY h.size)) (hfo.ints.up_ h)
        rw [hrl] at h9
        exact h9)
      obtain ⟨y, hy0⟩ : ∃ y, y = redR ((m + 1 : Nat) : Int) es r 0 := ⟨_, rfl⟩
      obtain ⟨sy, hsy⟩ : ∃ y, y = scrR ((m + 1 : Nat) : Int) es r 0 := ⟨_, rfl⟩
      rw [← hy0, ← hsy] at RD
      rw [← hy0] at HDR
      rw [← HX.out, ← hy0] at hcnt hea
      have SM := fun (W' : World) (g' cg' : Nat) (h : Below Y.heap.size Y W') (hi : IntS W' W'.heap.size (some ⟨g', 0, none⟩) y) => Lib.hid (show Calls Try.prog 41 #[.slice (some ⟨g', 0, none⟩) (m + 1) cg', .slice (some ⟨g, 0, none⟩) (m + 1) cg] W' (fun e w' => e = .returned (.bool (decide (y = x))) ∧ Below W'.heap.size W' w') by
        have hg : IntS W' W'.heap.size (some ⟨g, 0, none⟩) x := fun _ => ⟨g, 0, rfl, Nat.lt_of_lt_of_le e1.ch.1 h.size, fun i z hz => by rw [Nat.zero_add]; exact (h.cell (p := ⟨g, i, none⟩) e1.ch.1).trans (e1.ch.2 i z hz)⟩
        have h9 := implSameD (some ⟨g', 0, none⟩) (some ⟨g, 0, none⟩) cg' cg y x W' (by rw [HDR.out]; have := HM6.out; omega) (by rw [hl1.out]; have := HM6.out; omega) hi hg
        rw [HDR.out, hl1.out] at h9
        exact h9)
      have hmx : Try.prog.follows .mixedOrders = true := by kernel_rfl
      have hH : (fun w' => w'.cell? ⟨b1, 0, none⟩ = some (.int .i64 ((m + 1 : Nat) : Int)) ∧ w'.cell? ⟨b1, 1, none⟩ = some (.slice A es.length c) ∧ w'.cell? ⟨w2.heap.size, 0, none⟩ = some (.pointer (some ⟨pr, 0, none⟩)) ∧ w'.cell? ⟨pr, 0, none⟩ = some (.pointer (some ⟨pb, 0, none⟩)) ∧ w'.cell? ⟨pb, 1, none⟩ = some (.slice (some ⟨g, 0, none⟩) (m + 1) cg) ∧ Below Y.heap.size Y w') Y.drew := ⟨e1.b1c.1, e1.b1c.2, e1.gl.cell, e1.c0, e1.bdc, (Below.refl _ _).drew⟩
      have FIN0 := Lib.hid (show ∀ Z, Below Y.heap.size Y Z → Rnd q w6.heap.size Y Z ∧ EfiI W Z q l b1 w2.heap.size pr pb g cg (m + 1) A c es x from fun Z hz => ⟨Rnd.of_below hz _ _, e1.stp (Stp.of_below hz w6.heap.size) hq6 hqY⟩)
      have HRN := Lib.hid (show ∀ w8 Z, Below Y.heap.size Y w8 → Rnd q W.heap.size w8 Z → Rnd q w6.heap.size Y Z ∧ EfiI W Z q l b1 w2.heap.size pr pb g cg (m + 1) A c es x from fun w8 Z h8 hz => by
        have q1 := (FIN0.out w8 h8).2
        exact ⟨(Rnd.of_below h8 _ _).trans (hz.mono hW6), q1.rnd hz (Nat.le_trans hqY h8.size) (by rw [hl1.out]; omega)⟩)
      have HYL := Lib.hid (show ∀ w8, Below Y.heap.size Y w8 → Stp W.heap.size X w8 from fun w8 h8 => (hs.mono hW6).trans (Stp.of_below h8 _))
      have HRW := Lib.hid (show ∀ w8, Below Y.heap.size Y w8 → FreshRow X w8 b cc r from fun w8 h8 => ⟨hfb, own_stp hfo (Stp.of_below h8 Y.heap.size)⟩)
      have HJX := Lib.hid h2
      have cyb := e1.yb.cell
      have lyb := e1.yb.lt
      have HRL := Lib.hid hrl
      rw [hrl]
      clear hl2 h1 h2 hs hr hfb hfo hqX hqY hrm hrl hdv hy0 hsy e1
      by_cases hxy : y = x
      · rw [decide_eq_true hxy] at SM
        rw [if_pos hxy.symm] at hcnt
        have HEA := Lib.hid (hea hxy.symm)
        have HCN := Lib.hid hcnt
        clear hxy hcnt hea
        gi_wp2
        refine region_round_held (S := fun w' => w'.cell? ⟨b1, 0, none⟩ = some (.int .i64 ((m + 1 : Nat) : Int)) ∧ w'.cell? ⟨b1, 1, none⟩ = some (.slice A es.length c) ∧ w'.cell? ⟨w2.heap.size, 0, none⟩ = some (.pointer (some ⟨pr, 0, none⟩)) ∧ w'.cell? ⟨pr, 0, none⟩ = some (.pointer (some ⟨pb, 0, none⟩)) ∧ w'.cell? ⟨pb, 1, none⟩ = some (.slice (some ⟨g, 0, none⟩) (m + 1) cg) ∧ Below Y.heap.size Y w') hmx (by kernel_rfl) (fun ⟨_, _, h⟩ => h) ?_
        refine wpAnyH_on 9 (some 28) (.pointer (some ⟨pr, 0, none⟩)) rfl (by kernel_rfl) (by kernel_rfl) (by kernel_rfl) (fun _ _ _ h => h) rfl hH (by rfl) ?_ ?_
        · intro w hSw
          try dsimp only at hSw
          go_simp
        try simp only [Act.put, List.setIfInBounds_toArray, List.set_cons_zero, List.set_cons_succ]
        refine wpAnyH_on 10 (some 29) (.pointer (some ⟨pr, 0, none⟩)) rfl (by kernel_rfl) (by kernel_rfl) (by kernel_rfl) (fun _ _ _ h => h) rfl hH (by rfl) ?_ ?_
        · intro w hSw
          try dsimp only at hSw
          go_simp
        try simp only [Act.put, List.setIfInBounds_toArray, List.set_cons_zero, List.set_cons_succ]
        refine wpAnyH_on 11 (some 30) (.pointer (some ⟨pr, 0, none⟩)) rfl (by kernel_rfl) (by kernel_rfl) (by kernel_rfl) (fun _ _ _ h => h) rfl hH (by rfl) ?_ ?_
        · intro w hSw
          try dsimp only at hSw
          go_simp
        try simp only [Act.put, List.setIfInBounds_toArray, List.set_cons_zero, List.set_cons_succ]
        refine wpAnyH_on 12 (some 31) (.pointer (some ⟨pb, 0, none⟩)) rfl (by kernel_rfl) (by kernel_rfl) (by kernel_rfl) (fun _ _ _ h => h) rfl hH (by rfl) ?_ ?_
        · intro w hSw
          try dsimp only at hSw
          go_simp
        try simp only [Act.put, List.setIfInBounds_toArray, List.set_cons_zero, List.set_cons_succ]
        refine wpAnyH_on 13 (some 32) (.pointer (some ⟨pb, 0, none⟩)) rfl (by kernel_rfl) (by kernel_rfl) (by kernel_rfl) (fun _ _ _ h => h) rfl hH (by rfl) ?_ ?_
        · intro w hSw
          try dsimp only at hSw
          go_simp
        try simp only [Act.put, List.setIfInBounds_toArray, List.set_cons_zero, List.set_cons_succ]
        refine wpAnyH_on 14 (some 33) (.pointer (some ⟨pb, 1, none⟩)) rfl (by kernel_rfl) (by kernel_rfl) (by kernel_rfl) (fun _ _ _ h => h) rfl hH (by rfl) ?_ ?_
        · intro w hSw
          try dsimp only at hSw
          go_simp
        try simp only [Act.put, List.setIfInBounds_toArray, List.set_cons_zero, List.set_cons_succ]
        refine wpAnyH_on 15 (some 34) (.slice (some ⟨g, 0, none⟩) (m + 1) cg) rfl (by kernel_rfl) (by kernel_rfl) (by kernel_rfl) (fun _ _ _ h => h) rfl hH (by rfl) ?_ ?_
        · intro w hSw
          try dsimp only at hSw
          go_simp
        try simp only [Act.put, List.setIfInBounds_toArray, List.set_cons_zero, List.set_cons_succ]
        refine wpAnyH_on 0 (some 19) (.agg #[.int .i64 ((m + 1 : Nat) : Int), .slice A es.length c]) rfl (by kernel_rfl) (by kernel_rfl) (by kernel_rfl) (fun _ _ _ h => h) rfl hH (by rfl) ?_ ?_
        · intro w hSw
          try dsimp only at hSw
          go_simp
        try simp only [Act.put, List.setIfInBounds_toArray, List.set_cons_zero, List.set_cons_succ]
        refine wpAnyH_on 1 (some 20) (.slice (some ⟨b, 0, none⟩) (m + 1) cc) rfl (by kernel_rfl) (by kernel_rfl) (by kernel_rfl) (fun _ _ _ h => h) rfl hH (by rfl) ?_ ?_
        · intro w hSw
          try dsimp only at hSw
          go_simp
        try simp only [Act.put, List.setIfInBounds_toArray, List.set_cons_zero, List.set_cons_succ]
        refine wpAnyH_ready (rs := [2]) (by kernel_rfl) (by simp) ?_
        refine AllReadyH.cons rfl (fun K hK => ?_) AllReadyH.nil
        go_simp
        refine (RD _ (And.right (And.right (And.right (And.right (And.right hH)))))).out.mono ?_
        rintro e w7 ⟨pr', pb', g', cg', gs', rfl, hr7, hb7⟩
        refine hK.out _ _ (keep5 hH hb7) (fun hH => ?_)
        clear hK K
        try simp only [Act.put, List.setIfInBounds_toArray, List.set_cons_zero, List.set_cons_succ]
        have d0 := hr7.c0
        have d1 := hr7.b1
        refine wpAnyH_ready (rs := [3]) (by kernel_rfl) (by simp) ?_
        refine AllReadyH.cons rfl (fun K hK => ?_) AllReadyH.nil
        go_simp
        refine hK.out _ _ (hH) (fun hH => ?_)
        clear hK K
        try simp only [Act.put, List.setIfInBounds_toArray, List.set_cons_zero, List.set_cons_succ]
        refine wpAnyH_ready (rs := [4]) (by kernel_rfl) (by simp) ?_
        refine AllReadyH.cons rfl (fun K hK => ?_) AllReadyH.nil
        go_simp
        refine hK.out _ _ (hH) (fun hH => ?_)
        clear hK K
        try simp only [Act.put, List.setIfInBounds_toArray, List.set_cons_zero, List.set_cons_succ]
        refine wpAnyH_ready (rs := [5]) (by kernel_rfl) (by simp) ?_
        refine AllReadyH.cons rfl (fun K hK => ?_) AllReadyH.nil
        go_simp
        refine hK.out _ _ (hH) (fun hH => ?_)
        clear hK K
        try simp only [Act.put, List.setIfInBounds_toArray, List.set_cons_zero, List.set_cons_succ]
        refine wpAnyH_ready (rs := [6]) (by kernel_rfl) (by simp) ?_
        refine AllReadyH.cons rfl (fun K hK => ?_) AllReadyH.nil
        go_simp
        refine hK.out _ _ (hH) (fun hH => ?_)
        clear hK K
        try simp only [Act.put, List.setIfInBounds_toArray, List.set_cons_zero, List.set_cons_succ]
        refine wpAnyH_ready (rs := [7]) (by kernel_rfl) (by simp) ?_
        refine AllReadyH.cons rfl (fun K hK => ?_) AllReadyH.nil
        go_simp
        refine hK.out _ _ (hH) (fun hH => ?_)
        clear hK K
        try simp only [Act.put, List.setIfInBounds_toArray, List.set_cons_zero, List.set_cons_succ]
        refine wpAnyH_ready (rs := [8]) (by kernel_rfl) (by simp) ?_
        refine AllReadyH.cons rfl (fun K hK => ?_) AllReadyH.nil
        go_simp
        refine hK.out _ _ (hH) (fun hH => ?_)
        clear hK K
        try simp only [Act.put, List.setIfInBounds_toArray, List.set_cons_zero, List.set_cons_succ]
        refine wpAnyH_ready (rs := [16]) (by kernel_rfl) (by simp) ?_
        refine AllReadyH.cons rfl (fun K hK => ?_) AllReadyH.nil
        go_simp
        refine (SM _ g' cg' (And.right (And.right (And.right (And.right (And.right hH))))) hr7.xs.ints).out.mono ?_
        rintro e w8 ⟨rfl, hb8⟩
        refine hK.out _ _ (keep5 hH hb8) (fun hH => ?_)
        clear hK K
        try simp only [Act.put, List.setIfInBounds_toArray, List.set_cons_zero, List.set_cons_succ]
        refine wpAnyH_ready (rs := [17]) (by kernel_rfl) (by simp) ?_
        refine AllReadyH.cons rfl (fun K hK => ?_) AllReadyH.nil
        go_simp
        refine hK.out _ _ (hH) (fun hH => ?_)
        clear hK K
        try simp only [Act.put, List.setIfInBounds_toArray, List.set_cons_zero, List.set_cons_succ]
        refine wpAnyH_done (by kernel_rfl) ?_ _
        have h8 : Below Y.heap.size Y w8 := And.right (And.right (And.right (And.right (And.right hH))))
        obtain ⟨fn, tmps, assign, body, hy, hR⟩ := YieldAt.any (m' := 8) (YieldAt.mono_
          (R' := fun e Z => ∃ bb : Bool, e = .returned (.bool bb) ∧ Rnd q W.heap.size w8 Z ∧ (bb = true → J ((einL ((m + 1 : Nat) : Int) es d (L.take t)).length + 1) Z) ∧ (bb = false → ∃ t', Jx t' Z))
          (HY.out (einL ((m + 1 : Nat) : Int) es d (L.take t)).length r b cc X w8 HJX.out (HYL.out w8 h8) HEA.out (HRW.out w8 h8)) (fun e Z h => by
            rcases h with ⟨rfl, q1, q2⟩ | ⟨rfl, q1, q2⟩
            · exact ⟨true, rfl, q2, fun _ => q1, fun h => (by cases h)⟩
            · exact ⟨false, rfl, q2, fun h => (by cases h), fun _ => ⟨_, q1⟩⟩))
        rw [HRL.out] at hy
        have cy8 : w8.cell? ⟨W.heap.size, 0, none⟩ = some (.func (.yield l) #[] #[]) := (h8.cell (p := ⟨W.heap.size, 0, none⟩) lyb).trans cyb
        have H8 := Lib.hid h8
        clear hb8 hb7 hr7 d0 d1 h8 hH RD SM
        gi_wp2
        refine RoundIn.mono (F := Fence.wide.inRound l2) hR ?_
        rintro e Z ⟨bb, rfl, hz, hj1, hj2⟩
        obtain ⟨z1, z2⟩ := HRN.out w8 Z H8.out hz
        have Z1 := Lib.hid z1
        have Z2 := Lib.hid z2
        clear z1 z2 hz hR hy
        cases bb with
        | true =>
          have HJ1 := Lib.hid (hj1 rfl)
          clear hj1 hj2
          gi_wp2
          exact ⟨Z1.out, Z2.out, by rw [HCN.out, List.length_append]; exact HJ1.out⟩
        | false =>
          have HJ1 := Lib.hid (hj2 rfl)
          clear hj1 hj2
          gi_wp2
          exact ⟨Z1.out, rfl, HJ1.out⟩
      · rw [decide_eq_false hxy] at SM
        rw [if_neg (fun h => hxy h.symm)] at hcnt
        have HCN := Lib.hid hcnt
        clear hxy hcnt hea
        gi_wp2
        refine region_round_held (S := fun w' => w'.cell? ⟨b1, 0, none⟩ = some (.int .i64 ((m + 1 : Nat) : Int)) ∧ w'.cell? ⟨b1, 1, none⟩ = some (.slice A es.length c) ∧ w'.cell? ⟨w2.heap.size, 0, none⟩ = some (.pointer (some ⟨pr, 0, none⟩)) ∧ w'.cell? ⟨pr, 0, none⟩ = some (.pointer (some ⟨pb, 0, none⟩)) ∧ w'.cell? ⟨pb, 1, none⟩ = some (.slice (some ⟨g, 0, none⟩) (m + 1) cg) ∧ Below Y.heap.size Y w') hmx (by kernel_rfl) (fun ⟨_, _, h⟩ => h) ?_
        refine wpAnyH_on 9 (some 28) (.pointer (some ⟨pr, 0, none⟩)) rfl (by kernel_rfl) (by kernel_rfl) (by kernel_rfl) (fun _ _ _ h => h) rfl hH (by rfl) ?_ ?_
        · intro w hSw
          try dsimp only at hSw
          go_simp
        try simp only [Act.put, List.setIfInBounds_toArray, List.set_cons_zero, List.set_cons_succ]
        refine wpAnyH_on 10 (some 29) (.pointer (some ⟨pr, 0, none⟩)) rfl (by kernel_rfl) (by kernel_rfl) (by kernel_rfl) (fun _ _ _ h => h) rfl hH (by rfl) ?_ ?_
        · intro w hSw
          try dsimp only at hSw
          go_simp
        try simp only [Act.put, List.setIfInBounds_toArray, List.set_cons_zero, List.set_cons_succ]
        refine wpAnyH_on 11 (some 30) (.pointer (some ⟨pr, 0, none⟩)) rfl (by kernel_rfl) (by kernel_rfl) (by kernel_rfl) (fun _ _ _ h => h) rfl hH (by rfl) ?_ ?_
        · intro w hSw
          try dsimp only at hSw
          go_simp
        try simp only [Act.put, List.setIfInBounds_toArray, List.set_cons_zero, List.set_cons_succ]
        refine wpAnyH_on 12 (some 31) (.pointer (some ⟨pb, 0, none⟩)) rfl (by kernel_rfl) (by kernel_rfl) (by kernel_rfl) (fun _ _ _ h => h) rfl hH (by rfl) ?_ ?_
        · intro w hSw
          try dsimp only at hSw
          go_simp
        try simp only [Act.put, List.setIfInBounds_toArray, List.set_cons_zero, List.set_cons_succ]
        refine wpAnyH_on 13 (some 32) (.pointer (some ⟨pb, 0, none⟩)) rfl (by kernel_rfl) (by kernel_rfl) (by kernel_rfl) (fun _ _ _ h => h) rfl hH (by rfl) ?_ ?_
        · intro w hSw
          try dsimp only at hSw
          go_simp
        try simp only [Act.put, List.setIfInBounds_toArray, List.set_cons_zero, List.set_cons_succ]
        refine wpAnyH_on 14 (some 33) (.pointer (some ⟨pb, 1, none⟩)) rfl (by kernel_rfl) (by kernel_rfl) (by kernel_rfl) (fun _ _ _ h => h) rfl hH (by rfl) ?_ ?_
        · intro w hSw
          try dsimp only at hSw
          go_simp
        try simp only [Act.put, List.setIfInBounds_toArray, List.set_cons_zero, List.set_cons_succ]
        refine wpAnyH_on 15 (some 34) (.slice (some ⟨g, 0, none⟩) (m + 1) cg) rfl (by kernel_rfl) (by kernel_rfl) (by kernel_rfl) (fun _ _ _ h => h) rfl hH (by rfl) ?_ ?_
        · intro w hSw
          try dsimp only at hSw
          go_simp
        try simp only [Act.put, List.setIfInBounds_toArray, List.set_cons_zero, List.set_cons_succ]
        refine wpAnyH_on 0 (some 19) (.agg #[.int .i64 ((m + 1 : Nat) : Int), .slice A es.length c]) rfl (by kernel_rfl) (by kernel_rfl) (by kernel_rfl) (fun _ _ _ h => h) rfl hH (by rfl) ?_ ?_
        · intro w hSw
          try dsimp only at hSw
          go_simp
        try simp only [Act.put, List.setIfInBounds_toArray, List.set_cons_zero, List.set_cons_succ]
        refine wpAnyH_on 1 (some 20) (.slice (some ⟨b, 0, none⟩) (m + 1) cc) rfl (by kernel_rfl) (by kernel_rfl) (by kernel_rfl) (fun _ _ _ h => h) rfl hH (by rfl) ?_ ?_
        · intro w hSw
          try dsimp only at hSw
          go_simp
        try simp only [Act.put, List.setIfInBounds_toArray, List.set_cons_zero, List.set_cons_succ]
        refine wpAnyH_ready (rs := [2]) (by kernel_rfl) (by simp) ?_
        refine AllReadyH.cons rfl (fun K hK => ?_) AllReadyH.nil
        go_simp
        refine (RD _ (And.right (And.right (And.right (And.right (And.right hH)))))).out.mono ?_
        rintro e w7 ⟨pr', pb', g', cg', gs', rfl, hr7, hb7⟩
        refine hK.out _ _ (keep5 hH hb7) (fun hH => ?_)
        clear hK K
        try simp only [Act.put, List.setIfInBounds_toArray, List.set_cons_zero, List.set_cons_succ]
        have d0 := hr7.c0
        have d1 := hr7.b1
        refine wpAnyH_ready (rs := [3]) (by kernel_rfl) (by simp) ?_
        refine AllReadyH.cons rfl (fun K hK => ?_) AllReadyH.nil
        go_simp
        refine hK.out _ _ (hH) (fun hH => ?_)
        clear hK K
        try simp only [Act.put, List.setIfInBounds_toArray, List.set_cons_zero, List.set_cons_succ]
        refine wpAnyH_ready (rs := [4]) (by kernel_rfl) (by simp) ?_
        refine AllReadyH.cons rfl (fun K hK => ?_) AllReadyH.nil
        go_simp
        refine hK.out _ _ (hH) (fun hH => ?_)
        clear hK K
        try simp only [Act.put, List.setIfInBounds_toArray, List.set_cons_zero, List.set_cons_succ]
        refine wpAnyH_ready (rs := [5]) (by kernel_rfl) (by simp) ?_
        refine AllReadyH.cons rfl (fun K hK => ?_) AllReadyH.nil
        go_simp
        refine hK.out _ _ (hH) (fun hH => ?_)
        clear hK K
        try simp only [Act.put, List.setIfInBounds_toArray, List.set_cons_zero, List.set_cons_succ]
        refine wpAnyH_ready (rs := [6]) (by kernel_rfl) (by simp) ?_
        refine AllReadyH.cons rfl (fun K hK => ?_) AllReadyH.nil
        go_simp
        refine hK.out _ _ (hH) (fun hH => ?_)
        clear hK K
        try simp only [Act.put, List.setIfInBounds_toArray, List.set_cons_zero, List.set_cons_succ]
        refine wpAnyH_ready (rs := [7]) (by kernel_rfl) (by simp) ?_
        refine AllReadyH.cons rfl (fun K hK => ?_) AllReadyH.nil
        go_simp
        refine hK.out _ _ (hH) (fun hH => ?_)
        clear hK K
        try simp only [Act.put, List.setIfInBounds_toArray, List.set_cons_zero, List.set_cons_succ]
        refine wpAnyH_ready (rs := [8]) (by kernel_rfl) (by simp) ?_
        refine AllReadyH.cons rfl (fun K hK => ?_) AllReadyH.nil
        go_simp
        refine hK.out _ _ (hH) (fun hH => ?_)
        clear hK K
        try simp only [Act.put, List.setIfInBounds_toArray, List.set_cons_zero, List.set_cons_succ]
        refine wpAnyH_ready (rs := [16]) (by kernel_rfl) (by simp) ?_
        refine AllReadyH.cons rfl (fun K hK => ?_) AllReadyH.nil
        go_simp
        refine (SM _ g' cg' (And.right (And.right (And.right (And.right (And.right hH))))) hr7.xs.ints).out.mono ?_
        rintro e w8 ⟨rfl, hb8⟩
        refine hK.out _ _ (keep5 hH hb8) (fun hH => ?_)
        clear hK K
        try simp only [Act.put, List.setIfInBounds_toArray, List.set_cons_zero, List.set_cons_succ]
        refine wpAnyH_ready (rs := [17]) (by kernel_rfl) (by simp) ?_
        refine AllReadyH.cons rfl (fun K hK => ?_) AllReadyH.nil
        go_simp
        refine hK.out _ _ (hH) (fun hH => ?_)
        clear hK K
        try simp only [Act.put, List.setIfInBounds_toArray, List.set_cons_zero, List.set_cons_succ]
        refine wpAnyH_done (by kernel_rfl) ?_ _
        have h8 : Below Y.heap.size Y w8 := And.right (And.right (And.right (And.right (And.right hH))))
        have H8 := Lib.hid (FIN0.out w8 h8)
        have HJ8 := Lib.hid (HJ.out _ _ _ HJX.out (HYL.out w8 h8))
        clear hb8 hb7 hr7 d0 d1 h8 hH RD SM
        gi_wp2
        refine ⟨fun _ h => (by cases h), ?_⟩
        gi_wp2
        exact ⟨H8.out.1, H8.out.2, by rw [HCN.out]; exact HJ8.out⟩
      -- DONE
    case done =>
      rintro Z ⟨h1, h2⟩ hD
      rw [List.take_of_length_le (Nat.le_refl _)] at h2
      have H2 := Lib.hid h2
      clear h1 h2
      go_wp2
      exact marks_leave (B := W.heap.size) (fun h => (by cases h)) [w6.heap.size] Z (by simp) (fun D hE => by
        rw [List.mem_singleton] at hE
        subst hE
        exact ⟨hW6, hD⟩) (fun w' hw' => ⟨_, results_none rfl _ _ _, ⟨_, rfl⟩, .inl (HJ.out _ _ _ H2.out hw')⟩)
    case stop =>
      rintro c t Z ⟨rfl, t', h2⟩ hD
      have H2 := Lib.hid h2
      clear h2
      gi_wp2
      exact marks_leave (B := W.heap.size) (fun h => (by cases h)) [w6.heap.size] Z (by simp) (fun D hE => by
        rw [List.mem_singleton] at hE
        subst hE
        exact ⟨hW6, hD⟩) (fun w' hw' => ⟨_, results_none rfl _ _ _, ⟨_, rfl⟩, .inr ⟨t', HJx.out _ _ _ H2.out hw'⟩⟩)
end Go.Proofs.Ytklaanohbpcifaa
