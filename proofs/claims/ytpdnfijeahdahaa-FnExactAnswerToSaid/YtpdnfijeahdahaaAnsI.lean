/- AnswerTo: the program's side. -/
import Derived.Test.YtpdnfijeahdahaaEinI
import Derived.Test.YtpdnfijeahdahaaMinI
import Derived.Test.YtpdnfijeahdahaaAnsS
namespace Go.Proofs.Ytpdnfijeahdahaa
open Go.RowKit
attribute [local go_sem] Oper.semAt_some

/-- the boxes of the call: the graph, what is removed, the two results -/
structure AX (w wr : World) (N : Int) (A : Option Addr) (c : Nat) (es : List (Int × Int)) (E : Option Addr) (n ce : Nat) (r1 : Value) (r2 : Bool) : Prop where
  gb : GB w wr N A c es
  eb : Boxed wr (w.heap.size + 1) 27 (.slice E n ce)
  rb : Boxed wr (w.heap.size + 1 + 1) 27 r1
  bb : Boxed wr (w.heap.size + 1 + 1 + 1) 4 (.bool r2)
section
variable {w X Y : World} {N : Int} {A : Option Addr} {c : Nat} {es : List (Int × Int)} {E : Option Addr} {n ce : Nat} {r1 r1' : Value} {r2 r2' : Bool}
theorem box_next {b : Nat} {t : TypeId} {v : Value} (h : Boxed X b t v) (hb : Below X.heap.size X Y) : Boxed Y b t v := (hb.block b h.lt).trans h
theorem AX.next (h : AX w X N A c es E n ce r1 r2) (hb : Below X.heap.size X Y) : AX w Y N A c es E n ce r1 r2 := ⟨h.gb.next hb, box_next h.eb hb, box_next h.rb hb, box_next h.bb hb⟩
theorem AX.stp {B : Nat} (h : AX w X N A c es E n ce r1 r2) (hs : Stp B X Y) (hB : w.heap.size ≤ B) : AX w Y N A c es E n ce r1 r2 :=
  ⟨⟨hs.keep _ _ h.gb.box (.inl rfl), h.gb.old.trans (hs.below hB h.gb.old.size)⟩, box_stp h.eb hs, box_stp h.rb hs, box_stp h.bb hs⟩
theorem box_far {b g : Nat} {t : TypeId} {u v : Value} (h : Boxed X b t v) (hg : b ≠ g) : Boxed (X.setCell ⟨g, 0, none⟩ u) b t v := (Below.heap_setCell _ _ _ _ hg).trans h
theorem AX.set1 (h : AX w X N A c es E n ce r1 r2) (v : Value) : AX w (X.setCell ⟨w.heap.size + 1 + 1, 0, none⟩ v) N A c es E n ce v r2 :=
  ⟨⟨(Below.heap_setCell _ _ _ _ (by show w.heap.size ≠ w.heap.size + 1 + 1; omega)).trans h.gb.box, h.gb.old.setCell (p := ⟨w.heap.size + 1 + 1, 0, none⟩) (by show w.heap.size ≤ w.heap.size + 1 + 1; omega) _⟩, box_far h.eb (by omega), h.rb.set v, box_far h.bb (by omega)⟩
theorem AX.set2 (h : AX w X N A c es E n ce r1 r2) (b : Bool) : AX w (X.setCell ⟨w.heap.size + 1 + 1 + 1, 0, none⟩ (.bool b)) N A c es E n ce r1 b :=
  ⟨⟨(Below.heap_setCell _ _ _ _ (by show w.heap.size ≠ w.heap.size + 1 + 1 + 1; omega)).trans h.gb.box, h.gb.old.setCell (p := ⟨w.heap.size + 1 + 1 + 1, 0, none⟩) (by show w.heap.size ≤ w.heap.size + 1 + 1 + 1; omega) _⟩, box_far h.eb (by omega), box_far h.rb (by omega), h.bb.set _⟩
theorem AX.start (w : World) (N : Int) (A : Option Addr) (c : Nat) (es : List (Int × Int)) (E : Option Addr) (n ce : Nat) :
    AX w ((((w.alloc (.cells #[.int .i64 N, .slice A es.length c] 25)).alloc (.cells #[.slice E n ce] 27)).alloc (.cells #[.slice none 0 0] 27)).alloc (.cells #[.bool false] 4)) N A c es E n ce (.slice none 0 0) false := by
  have g0 := GB.start w N A c es
  have hs0 : (w.alloc (.cells #[.int .i64 N, .slice A es.length c] 25)).heap.size = w.heap.size + 1 := by simp
  obtain ⟨w1, hw1⟩ : ∃ z, z = w.alloc (.cells #[.int .i64 N, .slice A es.length c] 25) := ⟨_, rfl⟩
  rw [← hw1] at g0 hs0 ⊢
  have e1 := Boxed.new w1 27 (.slice E n ce)
  have hb1 : Below w1.heap.size w1 (w1.alloc (.cells #[.slice E n ce] 27)) := (Below.refl _ _).alloc (Nat.le_refl _) _
  have hs1 : (w1.alloc (.cells #[.slice E n ce] 27)).heap.size = w1.heap.size + 1 := by simp
  obtain ⟨w2, hw2⟩ : ∃ z, z = w1.alloc (.cells #[.slice E n ce] 27) := ⟨_, rfl⟩
  rw [← hw2] at e1 hb1 hs1 ⊢
  have e2 := Boxed.new w2 27 (.slice none 0 0)
  have hb2 : Below w2.heap.size w2 (w2.alloc (.cells #[.slice none 0 0] 27)) := (Below.refl _ _).alloc (Nat.le_refl _) _
  have hs2 : (w2.alloc (.cells #[.slice none 0 0] 27)).heap.size = w2.heap.size + 1 := by simp
  obtain ⟨w3, hw3⟩ : ∃ z, z = w2.alloc (.cells #[.slice none 0 0] 27) := ⟨_, rfl⟩
  rw [← hw3] at e2 hb2 hs2 ⊢
  have e3 := Boxed.new w3 4 (.bool false)
  have hb3 : Below w3.heap.size w3 (w3.alloc (.cells #[.bool false] 4)) := (Below.refl _ _).alloc (Nat.le_refl _) _
  rw [hs0] at e1
  rw [hs1, hs0] at e2
  rw [hs2, hs1, hs0] at e3
  exact ⟨((g0.next hb1).next hb2).next hb3, box_next (box_next e1 hb2) hb3, box_next e2 hb3, e3⟩
theorem rnd_box {q m g : Nat} {t : TypeId} {v u : Value} (h : Boxed X g t v) (hr : isRow (.cells #[v] t (0, 0))) (hq : q ≤ g) : Rnd q m X (X.setCell ⟨g, 0, none⟩ u) :=
  ⟨by simp [World.setCell], fun k o hk ho => by
    by_cases e : k = g
    · subst e
      rw [show X.heap[k]? = _ from h] at hk
      cases hk
      rcases ho with ho | ho | ho
      · exact absurd hr ho.2
      · cases ho.1
      · omega
    · rw [Below.heap_setCell _ _ _ _ e]
      exact hk⟩
theorem qown_set {w : World} {base b o n c g i : Nat} {q : List Int} {u : Value} (h : QOwn w base (.slice (some ⟨b, o, none⟩) n c) q) (hg : g < base) : QOwn (w.setCell ⟨g, i, none⟩ u) base (.slice (some ⟨b, o, none⟩) n c) q :=
  World.ownsRow.kept h (setCell_grown w g i u) (.inr (by have := h.block; simp only [Value.ownBlock, ne_eq, Option.some.injEq]; omega))
theorem row_slice (A : Option Addr) (k c : Nat) : isRow (.cells #[.slice A k c] 27 (0, 0)) := ⟨_, _, _, rfl, .inl ⟨.inl rfl, A, k, c, rfl⟩⟩
theorem row_bool (b : Bool) : isRow (.cells #[.bool b] 4 (0, 0)) := ⟨_, _, _, rfl, .inr ⟨rfl, b, rfl⟩⟩
end
theorem ans_results {W : World} {p q : Nat} {v1 v2 : Value} (tmps : Array Value) (h6 : tmps[6]?.getD undef = .pointer (some ⟨p, 0, none⟩)) (h7 : tmps[7]?.getD undef = .pointer (some ⟨q, 0, none⟩)) (b1 : W.cell? ⟨p, 0, none⟩ = some v1) (b2 : W.cell? ⟨q, 0, none⟩ = some v2) :
    (results Try.f28 tmps).run Try.prog W = .ok (.tuple #[v1, v2]) W := by
  have h : Try.f28.results = #[.cell 6 27, .cell 7 4] := rfl
  simp only [results, h]
  simp [Sem.run_bind, Result.andThen, h6, h7, b1, b2, go_sem]
theorem ansOk_1 {N : Int} {es : List (Int × Int)} {d x : List Int} (h : einOk N es d = false) : ansOk N es d x = false := by simp [ansOk, h]
theorem ansOk_2 {N : Int} {es : List (Int × Int)} {d x : List Int} (h : divB 60 N es x = false) : ansOk N es d x = false := by simp [ansOk, h]
theorem ansOk_3 {N : Int} {es : List (Int × Int)} {d x : List Int} (h : posAll x = false) : ansOk N es d x = false := by simp [ansOk, h]
theorem ansOk_t {N : Int} {es : List (Int × Int)} {d x : List Int} (h : einOk N es d = true) (h2 : divB 60 N es x = true) (h3 : posAll x = true) : ansOk N es d x = true := by simp [ansOk, h, h2, h3]
set_option maxRecDepth 100000 in
set_option maxHeartbeats 4000000 in
theorem implAns (N : Int) (A D E : Option Addr) (c cd ce : Nat) (es : List (Int × Int)) (d x : List Int) (w : World) (hn : es.length ≤ 1048576) (hd : d.length ≤ 1048576) (hx : x.length ≤ 1048576) (hE : EdgeS w w.heap.size A es) (hS : IntS w w.heap.size D d) (hT : IntS w w.heap.size E x) :
    Calls Try.prog 28 #[.agg #[.int .i64 N, .slice A es.length c], .slice D d.length cd, .slice E x.length ce] w (GivesIntsOk w (ansB N es d x) (ansH N es d x)) := by
  have HE := Lib.hid hE
  have HS := Lib.hid hS
  have HT := Lib.hid hT
  clear hE hS hT
  have X0 := Lib.hid (AX.start w N A c es E x.length ce)
  have HX := fun w h1 h2 => Lib.hid (implLis N A D c cd es d w hn hd h1 h2)
  have HD := fun w h1 h2 => Lib.hid (implDiv N A E c ce es x w hn hx h1 h2)
  have HF := fun w h1 => Lib.hid (implEff E ce x w hx h1)
  cases h1 : einOk N es d with
  | false =>
    have h0 := ans_f (ansOk_1 (x := x) h1)
    rw [h0.1, h0.2]
    rw [h1] at HX
    clear h1 h0 HD HF
    go_enter Try.func28, Try.ntmps28
    go_wp2_with fail
    have g0 := X0.out.gb.c0
    have g1 := X0.out.gb.c1
    refine (HX _ (HE.out.up_ X0.out.gb.old) (HS.out.up_ X0.out.gb.old)).out.mono ?_
    rintro e w1 ⟨rfl, hb1⟩
    have X1 := Lib.hid (X0.out.next hb1)
    have Z1 := Lib.hid ((X1.out.set1 (.slice none 0 0)).set2 false)
    have b0 := X1.out.rb.cell
    have b1 := X1.out.rb.frozen
    have b2 := X1.out.rb.lt
    have b3 := X1.out.bb.cell
    have b4 := X1.out.bb.frozen
    have b5 := X1.out.bb.lt
    clear X0 hb1 g0 g1
    go_wp2
    (try simp only [Exit.inBlock, Exit.then])
    refine bodyPost_ret (ans_results _ rfl rfl Z1.out.rb.cell Z1.out.bb.cell) rfl ?_
    exact ⟨none, 0, rfl, OwnI.nil _ _ _, Z1.out.gb.old⟩
  | true =>
    rw [h1] at HX
    cases h2 : divB 60 N es x with
    | false =>
      have h0 := ans_f (ansOk_2 (d := d) h2)
      rw [h0.1, h0.2]
      rw [h2] at HD
      clear h1 h2 h0 HF
      go_enter Try.func28, Try.ntmps28
      go_wp2_with fail
      have g0 := X0.out.gb.c0
      have g1 := X0.out.gb.c1
      refine (HX _ (HE.out.up_ X0.out.gb.old) (HS.out.up_ X0.out.gb.old)).out.mono ?_
      rintro e w1 ⟨rfl, hb1⟩
      have X1 := Lib.hid (X0.out.next hb1)
      clear X0 hb1 g0 g1
      have g0 := X1.out.gb.c0
      have g1 := X1.out.gb.c1
      have g2 := X1.out.eb.cell
      go_wp2_with fail
      refine (HD _ (HE.out.up_ X1.out.gb.old) (HT.out.up_ X1.out.gb.old)).out.mono ?_
      rintro e w2 ⟨rfl, hb2⟩
      have X2 := Lib.hid (X1.out.next hb2)
      clear X1 hb2 g0 g1 g2
      have Z1 := Lib.hid ((X2.out.set1 (.slice none 0 0)).set2 false)
      have b0 := X2.out.rb.cell
      have b1 := X2.out.rb.frozen
      have b2 := X2.out.rb.lt
      have b3 := X2.out.bb.cell
      have b4 := X2.out.bb.frozen
      have b5 := X2.out.bb.lt
      go_wp2
      (try simp only [Exit.inBlock, Exit.then])
      refine bodyPost_ret (ans_results _ rfl rfl Z1.out.rb.cell Z1.out.bb.cell) rfl ?_
      exact ⟨none, 0, rfl, OwnI.nil _ _ _, Z1.out.gb.old⟩
    | true =>
      rw [h2] at HD
      cases h3 : posAll x with
      | false =>
        have h0 := ans_f (ansOk_3 (N := N) (es := es) (d := d) h3)
        rw [h0.1, h0.2]
        rw [h3] at HF
        clear h1 h2 h3 h0
        go_enter Try.func28, Try.ntmps28
        go_wp2_with fail
        have g0 := X0.out.gb.c0
        have g1 := X0.out.gb.c1
        refine (HX _ (HE.out.up_ X0.out.gb.old) (HS.out.up_ X0.out.gb.old)).out.mono ?_
        rintro e w1 ⟨rfl, hb1⟩
        have X1 := Lib.hid (X0.out.next hb1)
        clear X0 hb1 g0 g1
        have g0 := X1.out.gb.c0
        have g1 := X1.out.gb.c1
        have g2 := X1.out.eb.cell
        go_wp2_with fail
        refine (HD _ (HE.out.up_ X1.out.gb.old) (HT.out.up_ X1.out.gb.old)).out.mono ?_
        rintro e w2 ⟨rfl, hb2⟩
        have X2 := Lib.hid (X1.out.next hb2)
        clear X1 hb2 g0 g1 g2
        have g2 := X2.out.eb.cell
        go_wp2_with fail
        refine (HF _ (HT.out.up_ X2.out.gb.old)).out.mono ?_
        rintro e w3 ⟨rfl, hb3⟩
        have X3 := Lib.hid (X2.out.next hb3)
        clear X2 hb3 g2
        have Z1 := Lib.hid ((X3.out.set1 (.slice none 0 0)).set2 false)
        have b0 := X3.out.rb.cell
        have b1 := X3.out.rb.frozen
        have b2 := X3.out.rb.lt
        have b3 := X3.out.bb.cell
        have b4 := X3.out.bb.frozen
        have b5 := X3.out.bb.lt
        go_wp2
        (try simp only [Exit.inBlock, Exit.then])
        refine bodyPost_ret (ans_results _ rfl rfl Z1.out.rb.cell Z1.out.bb.cell) rfl ?_
        exact ⟨none, 0, rfl, OwnI.nil _ _ _, Z1.out.gb.old⟩
      | true =>
        rw [h3] at HF
        have h0 := ans_t (ansOk_t h1 h2 h3)
        rw [h0.1, h0.2]
        have HMD := Lib.hid (fun w2 w3 hb0 h3 => ein_made N A D c cd es d w w2 w3 h1 hb0 HE.out HS.out h3)
        obtain ⟨M, rfl, hM0, hM6, -, hxl, -⟩ := div_limsB h2
        have HRL := Lib.hid (fun (y : List Int) (h : y ∈ einB (M : Int) es d) => ein_row h)
        obtain ⟨L, hL⟩ : ∃ L, L = einB (M : Int) es d := ⟨_, rfl⟩
        rw [← hL] at HRL HMD ⊢
        have HMN := Lib.hid (fun (y : List Int) (hy : y.length = M) (Ay : Option Addr) (cy : Nat) (W : World) (h1 : IntS W W.heap.size Ay y) (h2 : IntS W W.heap.size E x) => implMinus Ay E cy ce y x W (by omega) (by omega) h1 h2)
        have HEF := Lib.hid (fun (z : List Int) (hz : z.length = M) (Az : Option Addr) (cz : Nat) (W : World) (h1 : IntS W W.heap.size Az z) => implEff Az cz z W (by omega) h1)
        clear h1 h2 h3 h0 hL hM0 hM6 hxl
        refine callsIn_wide.1 (callsIn_of_wp_marks (n := 9) Try.func28 rfl trivial (wpIn_wide.2 ?_) rfl)
        simp only [Try.ntmps28, List.size_toArray, List.length_cons, List.length_nil, Nat.reduceAdd, Nat.reduceSub, Array.replicate_succ, Array.replicate_zero, List.push_toArray, List.append_toArray, List.nil_append, List.cons_append]
        go_wp2_with fail
        have g0 := X0.out.gb.c0
        have g1 := X0.out.gb.c1
        refine (HX _ (HE.out.up_ X0.out.gb.old) (HS.out.up_ X0.out.gb.old)).out.mono ?_
        rintro e w1 ⟨rfl, hb1⟩
        have X1 := Lib.hid (X0.out.next hb1)
        clear X0 hb1 g0 g1
        have g0 := X1.out.gb.c0
        have g1 := X1.out.gb.c1
        have g2 := X1.out.eb.cell
        go_wp2_with fail
        refine (HD _ (HE.out.up_ X1.out.gb.old) (HT.out.up_ X1.out.gb.old)).out.mono ?_
        rintro e w2 ⟨rfl, hb2⟩
        have X2 := Lib.hid (X1.out.next hb2)
        clear X1 hb2 g0 g1 g2
        have g2 := X2.out.eb.cell
        go_wp2_with fail
        refine (HF _ (HT.out.up_ X2.out.gb.old)).out.mono ?_
        rintro e w3 ⟨rfl, hb3⟩
        have X3 := Lib.hid (X2.out.next hb3)
        clear X2 hb3 g2 HX HD HF
        have g0 := X3.out.gb.c0
        have g1 := X3.out.gb.c1
        go_wp2_with fail
        refine (effectiveIn_any _ _ _ _ _ _ _ _).mono ?_
        rintro e w4 ⟨rfl, hw4⟩
        obtain ⟨hit, hb4⟩ := HMD.out w3 w4 X3.out.gb.old hw4
        have X4 := Lib.hid (X3.out.next hb4)
        have HIT := Lib.hid hit
        obtain ⟨f1, hf1⟩ : ∃ f1, f1 = w3.heap.size := ⟨_, rfl⟩
        rw [← hf1] at HIT
        clear hw4 hb4 X3 g0 g1 hit HMD
        rw [← hf1]
        clear hf1
        have hq4 := X4.out.gb.old.size
        go_wp2
        refine wpIn_wide.1 (range_it (n := 9) (q := w.heap.size) (L := L) rfl ein_enters HIT.out hq4 (Below.refl _ _) (fun t Z => AX w Z (M : Int) A c es E x.length ce (.slice none 0 0) false ∧ ansF (L.take t) x = none)
          (fun c' _ Z => c' = .ret ∧ ∃ (y : List Int) (b cy : Nat), ansF L x = some y ∧ AX w Z (M : Int) A c es E x.length ce (.slice (some ⟨b, 0, none⟩) y.length cy) true ∧ QOwn Z w.heap.size (.slice (some ⟨b, 0, none⟩) y.length cy) y) ?abd ?abdx ⟨X4.out, rfl⟩
          (fun v => { tmps := #[.agg #[.int .i64 (M : Int), .slice A es.length c], .slice D d.length cd, .slice E x.length ce, .pointer (some ⟨w.heap.size, 0, none⟩), undef, .pointer (some ⟨w.heap.size + 1, 0, none⟩), .pointer (some ⟨w.heap.size + 1 + 1, 0, none⟩), .pointer (some ⟨w.heap.size + 1 + 1 + 1, 0, none⟩), v,
            .agg #[.int .i64 (M : Int), .slice A es.length c], .slice D d.length cd, .bool true, .bool false, .bool false, .agg #[.int .i64 (M : Int), .slice A es.length c], .slice E x.length ce, .bool true, .bool false, .bool false, .bool false, .slice E x.length ce, .bool true, .bool false, .bool false,
            .agg #[.int .i64 (M : Int), .slice A es.length c], .slice D d.length cd, .func (.func 64) #[] #[.pointer (some ⟨f1, 0, none⟩), .pointer (some ⟨f1 + 1, 0, none⟩)], v, undef, undef, undef, undef, undef], defers := [] }) ?assign ?body ?done ?stop)
        case abd => exact fun t X Y h hs => ⟨h.1.stp hs hq4, h.2⟩
        case abdx =>
          rintro c' t X Y ⟨h0, y, b, cy, h1, h2, h3⟩ hs
          exact ⟨h0, y, b, cy, h1, h2.stp hs hq4, own_stp h3 hs⟩
        case assign =>
          intro l2 v Wz K hK
          gi_wp2
          exact hK
        case body =>
          rintro l2 t b cb r X Y hl2 ⟨hax, hno⟩ hs hr hf
          have XY := Lib.hid (hax.stp hs hq4)
          have hqX := hax.gb.old.size
          have hXl := hax.bb.lt
          have hrl := HRL.out r (List.mem_of_getElem? hr)
          have HQ := Lib.hid (show QOwn Y X.heap.size (.slice (some ⟨b, 0, none⟩) r.length cb) r from hf.2)
          have HA := Lib.hid (ans_at hno hr)
          have MN := Lib.hid (HMN.out r hrl (some ⟨b, 0, none⟩) cb Y HQ.out.ints (HT.out.up_ XY.out.gb.old))
          have EF := Lib.hid (fun (Az : Option Addr) (cz : Nat) (W : World) (h : IntS W W.heap.size Az (subB r x)) => HEF.out (subB r x) (by rw [subB_len, hrl]) Az cz W h)
          have hqY := XY.out.gb.old.size
          clear hax hno hrl hr hf hs HMN HEF
          have g2 := XY.out.eb.cell
          cases hp : posAll (subB r x) with
          | true =>
            rw [hp] at EF
            have HR := Lib.hid (HA.out.1 hp)
            clear hp HA
            gi_wp2_with fail
            refine ⟨trivial, (CallsIn.inRound l2 (callsIn_wide.2 MN.out)).mono ?_⟩
            rintro e w5 ⟨A5, c5, rfl, ho5, hb5⟩
            have EF5 := Lib.hid (EF.out A5 c5 w5 ho5.ints)
            have X5 := Lib.hid (XY.out.next hb5)
            have HQ5 := Lib.hid (HQ.out.below hb5)
            have R5 := Lib.hid (Rnd.of_below hb5 w.heap.size w4.heap.size)
            clear hb5 ho5 EF MN g2
            gi_wp2_with fail
            refine ⟨trivial, (CallsIn.inRound l2 (callsIn_wide.2 EF5.out)).mono ?_⟩
            rintro e w6 ⟨rfl, hb6⟩
            have X6 := Lib.hid (X5.out.next hb6)
            have HQ6 := Lib.hid (HQ5.out.below hb6)
            have R6 := Lib.hid (R5.out.trans (Rnd.of_below hb6 w.heap.size w4.heap.size))
            clear hb6 HQ5 EF5 X5 R5
            have b0 := X6.out.rb.cell
            have b1 := X6.out.rb.frozen
            have b2 := X6.out.rb.lt
            have b3 := X6.out.bb.cell
            have b4 := X6.out.bb.frozen
            have b5 := X6.out.bb.lt
            have FIN := Lib.hid (show Rnd w.heap.size w4.heap.size Y ((w6.setCell ⟨w.heap.size + 1 + 1, 0, none⟩ (.slice (some ⟨b, 0, none⟩) r.length cb)).setCell ⟨w.heap.size + 1 + 1 + 1, 0, none⟩ (.bool true)) ∧ AX w ((w6.setCell ⟨w.heap.size + 1 + 1, 0, none⟩ (.slice (some ⟨b, 0, none⟩) r.length cb)).setCell ⟨w.heap.size + 1 + 1 + 1, 0, none⟩ (.bool true)) (M : Int) A c es E x.length ce (.slice (some ⟨b, 0, none⟩) r.length cb) true ∧
                QOwn ((w6.setCell ⟨w.heap.size + 1 + 1, 0, none⟩ (.slice (some ⟨b, 0, none⟩) r.length cb)).setCell ⟨w.heap.size + 1 + 1 + 1, 0, none⟩ (.bool true)) w.heap.size (.slice (some ⟨b, 0, none⟩) r.length cb) r from
              ⟨(R6.out.trans (rnd_box X6.out.rb (row_slice _ _ _) (by omega))).trans (rnd_box (X6.out.set1 _).bb (row_bool _) (by omega)), (X6.out.set1 _).set2 true, ownsRow_mono (qown_set (qown_set HQ6.out (show w.heap.size + 1 + 1 < X.heap.size by omega)) hXl) (by omega)⟩)
            clear X6 HQ6 R6
            gi_wp2
            exact ⟨FIN.out.1, rfl, r, b, cb, HR.out, FIN.out.2.1, FIN.out.2.2⟩
          | false =>
            rw [hp] at EF
            have HR := Lib.hid (HA.out.2 hp)
            clear hp HA
            gi_wp2_with fail
            refine ⟨trivial, (CallsIn.inRound l2 (callsIn_wide.2 MN.out)).mono ?_⟩
            rintro e w5 ⟨A5, c5, rfl, ho5, hb5⟩
            have EF5 := Lib.hid (EF.out A5 c5 w5 ho5.ints)
            have X5 := Lib.hid (XY.out.next hb5)
            have R5 := Lib.hid (Rnd.of_below hb5 w.heap.size w4.heap.size)
            clear hb5 ho5 EF MN g2
            gi_wp2_with fail
            refine ⟨trivial, (CallsIn.inRound l2 (callsIn_wide.2 EF5.out)).mono ?_⟩
            rintro e w6 ⟨rfl, hb6⟩
            have X6 := Lib.hid (X5.out.next hb6)
            have R6 := Lib.hid (R5.out.trans (Rnd.of_below hb6 w.heap.size w4.heap.size))
            clear hb6 EF5 X5 R5
            gi_wp2
            exact ⟨R6.out, X6.out, HR.out⟩
        case done =>
          rintro Z ⟨hax, hno⟩ hD
          rw [List.take_length] at hno
          have X6 := Lib.hid hax
          have Z1 := Lib.hid ((hax.set1 (.slice none 0 0)).set2 false)
          have HD1 := Lib.hid (show ((Z.setCell ⟨w.heap.size + 1 + 1, 0, none⟩ (.slice none 0 0)).setCell ⟨w.heap.size + 1 + 1 + 1, 0, none⟩ (.bool false)).heap[w4.heap.size]? = some (.deferred (some [])) from by
            have := X4.out.bb.lt
            rw [Below.heap_setCell _ _ _ _ (by simp; omega), Below.heap_setCell _ _ _ _ (by simp; omega)]
            exact hD)
          have HN := Lib.hid hno
          clear hax hno hD
          have b0 := X6.out.rb.cell
          have b1 := X6.out.rb.frozen
          have b2 := X6.out.rb.lt
          have b3 := X6.out.bb.cell
          have b4 := X6.out.bb.frozen
          have b5 := X6.out.bb.lt
          go_wp2
          refine marks_leave (B := w.heap.size) (fun h => (by cases h)) [w4.heap.size] _ (by simp) (fun D hE => by
            rw [List.mem_singleton] at hE
            subst hE
            exact ⟨hq4, HD1.out⟩) (fun w' hw' => ⟨_, ans_results _ rfl rfl (Z1.out.stp hw' (Nat.le_refl _)).rb.cell (Z1.out.stp hw' (Nat.le_refl _)).bb.cell, ?_⟩)
          rw [HN.out]
          exact ⟨none, 0, rfl, OwnI.nil _ _ _, (Z1.out.stp hw' (Nat.le_refl _)).gb.old⟩
        case stop =>
          rintro c' t Z ⟨rfl, y, b, cy, h1, hax, hq⟩ hD
          have H1 := Lib.hid h1
          have Z1 := Lib.hid hax
          have HQ := Lib.hid hq
          clear h1 hax hq
          gi_wp2
          refine marks_leave (B := w.heap.size) (fun h => (by cases h)) [w4.heap.size] _ (by simp) (fun D hE => by
            rw [List.mem_singleton] at hE
            subst hE
            exact ⟨hq4, hD⟩) (fun w' hw' => ⟨_, ans_results _ rfl rfl (Z1.out.stp hw' (Nat.le_refl _)).rb.cell (Z1.out.stp hw' (Nat.le_refl _)).bb.cell, ?_⟩)
          rw [H1.out]
          exact ⟨_, _, rfl, OwnI.of_own (own_stp HQ.out hw'), (Z1.out.stp hw' (Nat.le_refl _)).gb.old⟩
end Go.Proofs.Ytpdnfijeahdahaa
