/- One text out of several: Cls Lift AnyH EqvS BetS PrinS WinS. -/
import Derived.Test.YtklaanohbpcifaaBG
import Derived.Test.YtklaanohbpcifaaBJ
import Derived.Test.YtklaanohbpcifaaBA
import Derived.Deep.RegionHeld3
/- Equivalence: the plain functions. -/
namespace Go.Proofs.Ytklaanohbpcifaa
open Go.RowKit

noncomputable def eqvB (N : Int) (es : List (Int × Int)) (a b : List Int) : Bool := divB 60 N es a && (divB 60 N es b && (decide (degB a a.length = degB b b.length) && decide (redR N es a 0 = redR N es b 0)))
noncomputable def betB (N : Int) (es : List (Int × Int)) (a b : List Int) : List Int := if eqvB N es a b = true then liftB (subB (scrR N es a 0) (scrR N es b 0)) else []
noncomputable def prinB (N : Int) (es : List (Int × Int)) (d : List Int) : Bool := divB 60 N es d && eqvB N es d (List.replicate N.toNat 0)
noncomputable def winB (N : Int) (es : List (Int × Int)) (d : List Int) : Bool := burnOk N es d 0 && decide (0 ≤ chipR N es d 0)
noncomputable def winS (N : Int) (es : List (Int × Int)) (d : List Int) : List Int := if winB N es d = true then liftB (scrR N es d 0) else []
theorem eqv_no1 {N : Int} {es : List (Int × Int)} {a b : List Int} (h : divB 60 N es a = false) : eqvB N es a b = false := by simp [eqvB, h]
theorem eqv_no2 {N : Int} {es : List (Int × Int)} {a b : List Int} (h : divB 60 N es b = false) : eqvB N es a b = false := by simp [eqvB, h]
theorem eqv_no3 {N : Int} {es : List (Int × Int)} {a b : List Int} (h : degB a a.length ≠ degB b b.length) : eqvB N es a b = false := by simp [eqvB, h]
theorem eqv_t {N : Int} {es : List (Int × Int)} {a b : List Int} (h1 : divB 60 N es a = true) (h2 : divB 60 N es b = true) (h3 : degB a a.length = degB b b.length) : eqvB N es a b = decide (redR N es a 0 = redR N es b 0) := by simp [eqvB, h1, h2, h3]
theorem bet_f {N : Int} {es : List (Int × Int)} {a b : List Int} (h : eqvB N es a b = false) : betB N es a b = [] := by rw [betB, if_neg (by rw [h]; decide)]
theorem bet_t {N : Int} {es : List (Int × Int)} {a b : List Int} (h : eqvB N es a b = true) : betB N es a b = liftB (subB (scrR N es a 0) (scrR N es b 0)) := by rw [betB, if_pos h]
theorem winS_f {N : Int} {es : List (Int × Int)} {d : List Int} (h : winB N es d = false) : winS N es d = [] := by rw [winS, if_neg (by rw [h]; decide)]
theorem winS_t {N : Int} {es : List (Int × Int)} {d : List Int} (h : winB N es d = true) : winS N es d = liftB (scrR N es d 0) := by rw [winS, if_pos h]
theorem eqv_div {N : Int} {es : List (Int × Int)} {a b : List Int} (h : eqvB N es a b = true) : divB 60 N es a = true ∧ divB 60 N es b = true ∧ redR N es a 0 = redR N es b 0 := by
  simp only [eqvB, Bool.and_eq_true, decide_eq_true_eq] at h
  exact ⟨h.1, h.2.1, h.2.2.2⟩
theorem div_burn {N : Int} {es : List (Int × Int)} {d : List Int} (h : divB 60 N es d = true) : burnOk N es d 0 = true := by
  obtain ⟨M, rfl, h0, _⟩ := div_limsB h
  unfold burnOk
  rw [h, vB_t (by omega)]
  rfl
theorem win_div {N : Int} {es : List (Int × Int)} {d : List Int} (h : winB N es d = true) : divB 60 N es d = true := by
  simp only [winB, burnOk, Bool.and_eq_true] at h
  exact h.1.1
/-- the specification's reducing, as lists -/
theorem specRd2 (A D : Option Addr) (c cd M : Nat) (es : List (Int × Int)) (d : List Int) (w : World) (hd : divB 60 (M : Int) es d = true) (hE : EdgeS w w.heap.size A es) (hS : IntS w w.heap.size D d) :
    Calls Try.prog 19 #[.agg #[.int .i64 (M : Int), .slice A es.length c], .slice D d.length cd, .int .i64 0] w (fun e w' => ∃ (A1 A2 : Option Addr) (c1 c2 : Nat), e = .returned (.tuple #[.slice A1 M c1, .slice A2 M c2]) ∧ OwnI w' w.heap.size A1 (redR (M : Int) es d 0) ∧ OwnI w' w.heap.size A2 (scrR (M : Int) es d 0) ∧ Below w.heap.size w w') := by
  obtain ⟨M', hM, h0, h6, hn, hl, hes, hdb, hc⟩ := div_limsB hd
  obtain rfl : M' = M := by omega
  refine (l05Reduce_any A D c cd M' 0 es d w h0 h6 h0 hl hn hes hdb hc.cut hE hS).mono ?_
  rintro e w' ⟨A1, A2, c1, c2, f, rfl, hf, o1, o2, hb⟩
  have h1 := red_same hf h0 hn hdb hes
  have hb0 := div_burn hd
  refine ⟨A1, A2, c1, c2, rfl, ?_, ?_, hb⟩
  · rw [redR_t hb0, Int.toNat_natCast]
    rw [h1.2] at o1
    exact o1
  · rw [scrR_t hb0, Int.toNat_natCast]
    rw [h1.1] at o2
    exact o2
theorem red_len {M : Nat} {es : List (Int × Int)} {d : List Int} (h : divB 60 (M : Int) es d = true) : (redR (M : Int) es d 0).length = M ∧ (scrR (M : Int) es d 0).length = M := by
  rw [redR_t (div_burn h), scrR_t (div_burn h), chipsOf_len, chipsOf_len, Int.toNat_natCast]
  exact ⟨rfl, rfl⟩
theorem betB_len (N : Int) (es : List (Int × Int)) (a b : List Int) : (betB N es a b).length ≤ 1048576 := by
  cases h : eqvB N es a b with
  | false => rw [bet_f h]; simp
  | true =>
    have := (redR_len N es a 0).2
    rw [bet_t h, liftB_len, subB_len]
    omega
theorem winS_len (N : Int) (es : List (Int × Int)) (d : List Int) : (winS N es d).length ≤ 1048576 := by
  cases h : winB N es d with
  | false => rw [winS_f h]; simp
  | true =>
    have := (redR_len N es d 0).2
    rw [winS_t h, liftB_len]
    omega
end Go.Proofs.Ytklaanohbpcifaa

/- l06Lift: the specification's script lifted so that its least element is 0. -/
namespace Go.Proofs.Ytklaanohbpcifaa
open Go.RowKit

def leastK (x : Int) (l : List Int) (k : Nat) : Int := leastF x (l.take k)
theorem leastK_zero (x : Int) (l : List Int) : leastK x l 0 = x := rfl
theorem leastK_step {y : Int} {l : List Int} {k : Nat} {x : Int} (h : l[k]? = some x) : leastK y l (k + 1) = if x < leastK y l k then x else leastK y l k := by
  have h2 : leastK y l (k + 1) = min (leastK y l k) x := by
    unfold leastK
    rw [List.take_add_one, h]
    exact leastF_snoc (l.take k) y x
  rw [h2]
  split <;> omega
theorem leastK_all {y : Int} {l : List Int} {k : Nat} (h : l[0]? = some y) (hk : l.length ≤ k) : leastK y l k = leastB l := by
  unfold leastK
  rw [List.take_of_length_le hk]
  cases l with
  | nil => simp at h
  | cons z m =>
    simp at h
    subst h
    rw [leastF, leastB, Int.min_self]
theorem take_snocL {l : List Int} {k : Nat} {x : Int} (h : l[k]? = some x) : l.take (k + 1) = l.take k ++ [x] := by rw [List.take_add_one, h]; rfl

end Go.Proofs.Ytklaanohbpcifaa

/- A drawn region, one operation at a time: one that yields is taken, one that its guard forbids is passed over. -/
namespace Go.Proofs.Ytklaanohbpcifaa
open Go.RowKit

theorem keepB2 {w0 W W' : World} {X : Nat} {a b : Value} (h : W.cell? ⟨X, 0, none⟩ = some a ∧ W.cell? ⟨X, 1, none⟩ = some b ∧ Below w0.heap.size w0 W) (hb : Below W.heap.size W W') :
    W'.cell? ⟨X, 0, none⟩ = some a ∧ W'.cell? ⟨X, 1, none⟩ = some b ∧ Below w0.heap.size w0 W' :=
  ⟨(hb.cell (World.block_lt_of_cell? W _ h.1)).trans h.1, (hb.cell (World.block_lt_of_cell? W _ h.2.1)).trans h.2.1, h.2.2.trans (hb.mono h.2.2.size)⟩
section
variable {P : Program} {ops : Array Oper} {Q : Exit → Act → World → Prop} {md : Region.Mode} {S : World → Prop} {oi : Oper} {fuel : Nat} {listed : Array Bool} {a : Act} {w : World}
/-- an operation that yields v is taken -/
theorem wpAnyH_on (i : Nat) (s : Option Tmp) (v : Value) (hi : ops[i]? = some oi)
    (hs : Region.noSelect ops = true) (hf : Region.free md ops listed i = true) (hr : (Region.ready md ops listed).contains i = true)
    (hQ : ∀ c a w, Q (.panic c) (a.put oi.dst v) w → Q (.panic c) a w) (hd : oi.dst = s) (hS : S w) (hw : Region.wanted oi (yielded ops a.tmps) = true) (hy : ∀ w, S w → (execOp a.eval oi).run P w = .ok (.value v) w)
    (h : wpAnyH P md ops Q S fuel (listed.setIfInBounds i true) (a.put s v) w) : wpAnyH P md ops Q S (fuel + 1) listed a w :=
  wpAnyH_take hi hs hf hr hQ (Or.inl ⟨hw, hy⟩) hS (hd ▸ h)
/-- an operation whose guard says no is passed over -/
theorem wpAnyH_off (i : Nat) (s : Option Tmp) (hi : ops[i]? = some oi)
    (hs : Region.noSelect ops = true) (hf : Region.free md ops listed i = true) (hr : (Region.ready md ops listed).contains i = true)
    (hQ : ∀ c a w, Q (.panic c) (a.put oi.dst undef) w → Q (.panic c) a w) (hd : oi.dst = s) (hS : S w) (hw : Region.wanted oi (yielded ops a.tmps) = false)
    (h : wpAnyH P md ops Q S fuel (listed.setIfInBounds i true) (a.put s undef) w) : wpAnyH P md ops Q S (fuel + 1) listed a w :=
  wpAnyH_take hi hs hf hr hQ (Or.inr ⟨hw, rfl⟩) hS (hd ▸ h)
end
end Go.Proofs.Ytklaanohbpcifaa

/- AreEquivalent: the specification's side. -/
namespace Go.Proofs.Ytklaanohbpcifaa
open Go.RowKit

end Go.Proofs.Ytklaanohbpcifaa

/- ScriptBetween: the specification's side. -/
namespace Go.Proofs.Ytklaanohbpcifaa
open Go.RowKit

end Go.Proofs.Ytklaanohbpcifaa

/- IsPrincipal: the specification's side. -/
namespace Go.Proofs.Ytklaanohbpcifaa
open Go.RowKit

end Go.Proofs.Ytklaanohbpcifaa

/- IsWinnable and WinningScript: the specification's side. -/
namespace Go.Proofs.Ytklaanohbpcifaa
open Go.RowKit

set_option maxRecDepth 100000 in
set_option maxHeartbeats 2000000 in
theorem specWin (N : Int) (A D : Option Addr) (c cd : Nat) (es : List (Int × Int)) (d : List Int) (w : World) (hn : es.length ≤ 1048576) (hd : d.length ≤ 1048576) (hE : EdgeS w w.heap.size A es) (hS : IntS w w.heap.size D d) :
    Calls Try.prog 18 #[.agg #[.int .i64 N, .slice A es.length c], .slice D d.length cd] w fun e w' => e = .returned (.bool (winB N es d)) ∧ Below w.heap.size w w' := by
  have HE := Lib.hid hE
  have HS := Lib.hid hS
  clear hE hS
  have G0 := GB.start w N A c es
  have HD := fun w h1 h2 => Lib.hid (specChip N A D c cd es d 0 w hn hd h1 h2)
  rw [winB]
  obtain ⟨z, hz⟩ : ∃ x, x = chipR N es d 0 := ⟨_, rfl⟩
  rw [← hz] at HD ⊢
  cases h1 : burnOk N es d 0 with
  | false =>
    rw [h1] at HD
    clear h1 hz
    go_enter Try.func18, Try.ntmps18
    go_wp2_with fail
    refine (HD _ (HE.out.up_ G0.old) (HS.out.up_ G0.old)).out.mono ?_
    rintro e w1 ⟨rfl, hb1⟩
    have G1 := Lib.hid (G0.next hb1)
    clear G0 hb1
    go_wp2
    go_ret
    exact ⟨ret_boolE (by simp), G1.out.old⟩
  | true =>
    rw [h1] at HD
    clear h1 hz
    go_enter Try.func18, Try.ntmps18
    go_wp2_with fail
    refine (HD _ (HE.out.up_ G0.old) (HS.out.up_ G0.old)).out.mono ?_
    rintro e w1 ⟨rfl, hb1⟩
    have G1 := Lib.hid (G0.next hb1)
    clear G0 hb1
    go_wp2
    go_ret
    exact ⟨ret_boolE (by simp), G1.out.old⟩
end Go.Proofs.Ytklaanohbpcifaa
