/- advance: the counter of the recurrent configurations, over slices.Backward. -/
import Derived.Test.YtdpojcgeblbfeaaWBack
import Derived.Test.YtdpojcgeblbfeaaWBU
import Derived.Test.YtdpojcgeblbfeaaWBI
import Derived.Test.YtdpojcgeblbfeaaWRndR
set_option linter.all false
namespace Go.Proofs.Ytdpojcgeblbfeaa
open Go.RowKit
attribute [local go_sem] Oper.semAt_some

def zeroTo (c : List Int) (v : Nat) : List Int := (List.range c.length).map fun u => if u < v then c.getD u 0 else 0
theorem zeroTo_len (c : List Int) (v : Nat) : (zeroTo c v).length = c.length := by simp [zeroTo]
theorem zeroTo_at {c : List Int} {v u : Nat} (h : u < c.length) : (zeroTo c v)[u]? = some (if u < v then c.getD u 0 else 0) := by simp [zeroTo, h]
theorem zeroTo_all (c : List Int) : zeroTo c c.length = c := by
  refine List.ext_getElem (zeroTo_len _ _) fun i h1 h2 => ?_
  have := zeroTo_at (v := c.length) h2
  rw [if_pos h2, List.getElem?_eq_getElem h1] at this
  injection this with this
  rw [this]
  simp [List.getD, h2]
theorem zeroTo_less {c : List Int} {v : Nat} (h : v < c.length) : (zeroTo c (v + 1)).set v 0 = zeroTo c v := by
  refine List.ext_getElem? fun i => ?_
  rw [List.getElem?_set, zeroTo_len]
  by_cases e : v = i
  · subst e
    rw [if_pos rfl, if_pos h, zeroTo_at h, if_neg (Nat.lt_irrefl _)]
  · rw [if_neg e]
    by_cases hi : i < c.length
    · rw [zeroTo_at hi, zeroTo_at hi]
      have : (i < v + 1) = (i < v) := by apply propext; omega
      simp only [this]
    · rw [List.getElem?_eq_none (by rw [zeroTo_len]; omega), List.getElem?_eq_none (by rw [zeroTo_len]; omega)]
theorem zeroTo_up {c : List Int} {v : Nat} (h : v < c.length) : (zeroTo c (v + 1)).set v (c.getD v 0 + 1) = upB c v := by
  refine List.ext_getElem? fun i => ?_
  rw [List.getElem?_set, zeroTo_len]
  by_cases hi : i < c.length
  · have hu : (upB c v)[i]? = some (if i < v then c.getD i 0 else if i = v then c.getD v 0 + 1 else 0) := by simp [upB, hi]
    rw [hu]
    by_cases e : v = i
    · subst e
      rw [if_pos rfl, if_pos h, if_neg (Nat.lt_irrefl _), if_pos rfl]
    · rw [if_neg e, zeroTo_at hi]
      by_cases e3 : i < v
      · rw [if_pos e3, if_pos (by omega)]
      · rw [if_neg e3, if_neg (by omega), if_neg (by omega)]
  · rw [List.getElem?_eq_none (by rw [zeroTo_len]; omega), List.getElem?_eq_none (by rw [upB_len]; omega)]
    split
    · omega
    · rfl
structure AdvI (w Z : World) (g M cd cf : Nat) (F : Option Addr) (f x : List Int) (b : Bool) : Prop where
  d : Blk Z g 3 (intCells x).toArray
  bD : Blk Z w.heap.size 62 #[.slice (some ⟨g, 0, none⟩) M cd]
  bF : Blk Z (w.heap.size + 1) 62 #[.slice F M cf]
  bR : Blk Z (w.heap.size + 1 + 1) 4 #[.bool b]
  bB : Blk Z (w.heap.size + 1 + 1 + 1) 62 #[.slice (some ⟨g, 0, none⟩) M cd]
  fI : IntS Z w.heap.size F f
  gr : w.grownBy Z (some g)
theorem grownBy_stq {w Z Z' : World} {r : Option Nat} {B : Nat} (h : w.grownBy Z r) (hs : Stq B Z Z') (hB : w.heap.size ≤ B) : w.grownBy Z' r :=
  ⟨hs.os.trans h.os, hs.tape.trans h.tape, hs.output.trans h.output, Nat.le_trans h.size hs.size, fun k hk hne => by
    have h1 := h.block k hk hne
    rw [← h1]
    have hk2 : k < Z.heap.size := Nat.lt_of_lt_of_le hk h.size
    rw [Array.getElem?_eq_getElem hk2]
    exact hs.keep k _ (Array.getElem?_eq_getElem hk2) (.inr (by omega))⟩
theorem ints_stq {Z Z' : World} {B N : Nat} {F : Option Addr} {f : List Int} (h : IntS Z N F f) (hs : Stq B Z Z') : IntS Z' N F f := fun hn => by
  obtain ⟨b, o, e, hb, hc⟩ := h hn
  exact ⟨b, o, e, hb, fun i z hz => hs.cell (hc i z hz)⟩
theorem AdvI.stq {w Z Z' : World} {g M cd cf B : Nat} {F : Option Addr} {f x : List Int} {b : Bool} (h : AdvI w Z g M cd cf F f x b) (hs : Stq B Z Z') (hB : w.heap.size ≤ B) : AdvI w Z' g M cd cf F f x b :=
  ⟨hs.block h.d, hs.block h.bD, hs.block h.bF, hs.block h.bR, hs.block h.bB, ints_stq h.fI hs, grownBy_stq h.gr hs hB⟩
theorem ints_far {Z : World} {B g o : Nat} {F : Option Addr} {f : List Int} {u : Value} (h : IntS Z B F f) (hne : ∀ b off, F = some ⟨b, off, none⟩ → b ≠ g) : IntS (Z.setCell ⟨g, o, none⟩ u) B F f := fun hn => by
  obtain ⟨b, o2, e, hb, hc⟩ := h hn
  exact ⟨b, o2, e, hb, fun i z hz => (World.cell?_of_block (a := ⟨b, o2 + i, none⟩) (Below.heap_setCell _ _ _ _ (hne b o2 e))).trans (hc i z hz)⟩
theorem grownBy_set {w Z : World} {g o : Nat} {u : Value} (h : w.grownBy Z (some g)) : w.grownBy (Z.setCell ⟨g, o, none⟩ u) (some g) :=
  ⟨h.os, h.tape, h.output, by simpa [World.setCell] using h.size, fun k hk hne => (Below.heap_setCell _ _ _ _ (by intro e; exact hne (by rw [show k = g from e]))).trans (h.block k hk hne)⟩
theorem grownBy_new {w Z : World} {g X o : Nat} {u : Value} (h : w.grownBy Z (some g)) (hX : w.heap.size ≤ X) : w.grownBy (Z.setCell ⟨X, o, none⟩ u) (some g) :=
  ⟨h.os, h.tape, h.output, by simpa [World.setCell] using h.size, fun k hk hne => (Below.heap_setCell _ _ _ _ (by show k ≠ X; omega)).trans (h.block k hk hne)⟩
theorem intCells_set (x : List Int) (v : Nat) (z : Int) : ((intCells x).toArray.setIfInBounds v (.int .i64 z)) = (intCells (x.set v z)).toArray := by
  simp [intCells, List.map_set]
theorem AdvI.put {w Z : World} {g M cd cf v : Nat} {F : Option Addr} {f x : List Int} {b : Bool} (h : AdvI w Z g M cd cf F f x b) (hg : g < w.heap.size) (hF : ∀ c off, F = some ⟨c, off, none⟩ → c ≠ g) (z : Int) : AdvI w (Z.setCell ⟨g, v, none⟩ (.int .i64 z)) g M cd cf F f (x.set v z) b :=
  ⟨by have := h.d.set_ v (.int .i64 z); rwa [intCells_set] at this, h.bD.far (by simp only; omega) _, h.bF.far (by simp only; omega) _, h.bR.far (by simp only; omega) _, h.bB.far (by simp only; omega) _, ints_far h.fI hF, grownBy_set h.gr⟩
theorem AdvI.say {w Z : World} {g M cd cf : Nat} {F : Option Addr} {f x : List Int} {b : Bool} (h : AdvI w Z g M cd cf F f x b) (hg : g < w.heap.size) (hF : ∀ c off, F = some ⟨c, off, none⟩ → c < w.heap.size) (b' : Bool) : AdvI w (Z.setCell ⟨w.heap.size + 1 + 1, 0, none⟩ (.bool b')) g M cd cf F f x b' :=
  ⟨h.d.far (by simp only; omega) _, h.bD.far (by simp only; omega) _, h.bF.far (by simp only; omega) _, by have := h.bR.set_ 0 (.bool b'); exact this, h.bB.far (by simp only; omega) _, ints_far h.fI fun c off e => by have := hF c off e; omega, grownBy_new h.gr (by omega)⟩
def AdvP (M : Nat) (c f : List Int) (b : Bool) (x : List Int) : Prop := (b = true ∧ ∃ v, v < M ∧ c.getD v 0 < f.getD v 0 ∧ (∀ u, v < u → u < M → f.getD u 0 ≤ c.getD u 0) ∧ x = upB c v) ∨ (b = false ∧ ∀ u, u < M → f.getD u 0 ≤ c.getD u 0)
set_option maxRecDepth 100000 in
set_option maxHeartbeats 4000000 in
theorem advance_any (g M cd cf : Nat) (F : Option Addr) (c f : List Int) (w : World) (hM : M ≤ 6) (hcl : c.length = M) (hfl : f.length = M) (hc12 : ∀ u, 0 ≤ c.getD u 0 ∧ c.getD u 0 ≤ 100) (hB : Blk w g 3 (intCells c).toArray) (hF : IntS w w.heap.size F f) (hne : ∀ b off, F = some ⟨b, off, none⟩ → b ≠ g) :
    Calls Try.prog 75 #[.slice (some ⟨g, 0, none⟩) M cd, .slice F M cf] w fun e w' => ∃ b x, e = .returned (.bool b) ∧ AdvP M c f b x ∧ (b = true → Blk w' g 3 (intCells x).toArray) ∧ w.grownBy w' (some g) := by
  have hg := hB.lt
  have hFb : ∀ b off, F = some ⟨b, off, none⟩ → 0 < M → b < w.heap.size := fun b off e h0 => by
    obtain ⟨b', o', e', h1, -⟩ := hF (by omega)
    rw [e] at e'
    injection e' with e'
    injection e' with e1 _ _
    omega
  obtain ⟨W3, hW3⟩ : ∃ X : World, X = ((w.alloc (.cells #[.slice (some ⟨g, 0, none⟩) M cd] 62)).alloc (.cells #[.slice F M cf] 62)).alloc (.cells #[.bool false] 4) := ⟨_, rfl⟩
  obtain ⟨W4, hW4⟩ : ∃ X : World, X = W3.alloc (.cells #[.slice (some ⟨g, 0, none⟩) M cd] 62) := ⟨_, rfl⟩
  have hs3 : W3.heap.size = w.heap.size + 3 := by rw [hW3]; simp
  have hb3 : Below w.heap.size w W3 := by rw [hW3]; exact (((Below.refl _ _).alloc (Nat.le_refl _) _).alloc (by simp) _).alloc (by simp; omega) _
  have hb4 : Below w.heap.size w W4 := by rw [hW4]; exact hb3.alloc (by omega) _
  have hI4 : AdvI w W4 g M cd cf F f (zeroTo c (M - 0)) false := by
    refine ⟨by rw [Nat.sub_zero, ← hcl, zeroTo_all]; exact hB.below hb4 hg, ?_, ?_, ?_, ?_, hF.below hb4, ⟨hb4.os, hb4.tape, hb4.output, hb4.size, fun k hk _ => hb4.block k hk⟩⟩
    · rw [hW4, hW3]; exact (((Blk.new w _ _).alloc _).alloc _).alloc _
    · have h := ((Blk.new (w.alloc (.cells #[.slice (some ⟨g, 0, none⟩) M cd] 62)) 62 #[.slice F M cf]).alloc (.cells #[.bool false] 4)).alloc (.cells #[.slice (some ⟨g, 0, none⟩) M cd] 62)
      rw [World.size_alloc, ← hW3, ← hW4] at h
      exact h
    · have h := (Blk.new ((w.alloc (.cells #[.slice (some ⟨g, 0, none⟩) M cd] 62)).alloc (.cells #[.slice F M cf] 62)) 4 #[.bool false]).alloc (.cells #[.slice (some ⟨g, 0, none⟩) M cd] 62)
      rw [World.size_alloc, World.size_alloc, ← hW3, ← hW4] at h
      exact h
    · have h := Blk.new W3 62 #[.slice (some ⟨g, 0, none⟩) M cd]
      rw [hs3, ← hW4] at h
      exact h
  have HI4 := Lib.hid hI4
  have hs4 : W4.heap.size = w.heap.size + 4 := by rw [hW4]; simp; omega
  have HCL := Lib.hid hcl
  have HFL := Lib.hid hfl
  have HC := Lib.hid hc12
  have HNE := Lib.hid hne
  have HFB := Lib.hid hFb
  have HW3 := Lib.hid hW3
  have HW4 := Lib.hid hW4
  have hlb : W4.cell? ⟨w.heap.size + 1 + 1 + 1, 0, none⟩ = some (.slice (some ⟨g, 0, none⟩) M cd) := by rw [hI4.bB.cell]; rfl
  have HLB := Lib.hid hlb
  have z2 : W3.cell? ⟨w.heap.size, 0, none⟩ = some (.slice (some ⟨g, 0, none⟩) M cd) := by
    rw [hW3]
    have h := ((Blk.new w 62 #[.slice (some ⟨g, 0, none⟩) M cd]).alloc (.cells #[.slice F M cf] 62)).alloc (.cells #[.bool false] 4)
    rw [h.cell]
    rfl
  clear hcl hfl hc12 hB hF hne hFb hW3 hW4 hb3 hb4 hI4 hlb
  refine callsIn_wide.1 (callsIn_of_wp_marks (n := 9) Try.func75 rfl trivial (wpIn_wide.2 ?_) rfl)
  simp only [Try.ntmps75, List.size_toArray, List.length_cons, List.length_nil, Nat.reduceAdd, Nat.reduceSub, Array.replicate_succ, Array.replicate_zero, List.push_toArray, List.append_toArray, List.nil_append, List.cons_append]
  go_wp2_with fail
  rw [← HW3.out]
  refine (back_div _ _ _ _).mono ?_
  rintro e w4 ⟨rfl, rfl⟩
  rw [← HW4.out, hs3]
  have hb3 : w.heap.size + 3 = w.heap.size + 1 + 1 + 1 := rfl
  rw [hb3]
  clear z2 hs3 hb3 HW3 HW4
  go_wp2
  refine wpIn_wide.1 (range_back (n := 9) (m := M) (lb := w.heap.size + 1 + 1 + 1) (c := cd) (A := some ⟨g, 0, none⟩) rfl back_enters_div (back_it_div _ _ _ _ (by omega)) HLB.out
    (fun t Z => t ≤ M ∧ AdvI w Z g M cd cf F f (zeroTo c (M - t)) false ∧ ∀ u, M - t ≤ u → u < M → f.getD u 0 ≤ c.getD u 0)
    (fun k t Z => k = .ret ∧ ∃ v, v < M ∧ c.getD v 0 < f.getD v 0 ∧ (∀ u, v < u → u < M → f.getD u 0 ≤ c.getD u 0) ∧ AdvI w Z g M cd cf F f (upB c v) true)
    ?abd ?abdx ?hrd ⟨Nat.zero_le _, HI4.out, fun u h1 h2 => absurd h2 (by omega)⟩
    (fun v1 v2 => { tmps := #[.slice (some ⟨g, 0, none⟩) M cd, .slice F M cf, .pointer (some ⟨w.heap.size, 0, none⟩), .pointer (some ⟨w.heap.size + 1, 0, none⟩), .pointer (some ⟨w.heap.size + 1 + 1, 0, none⟩), v1, .slice (some ⟨g, 0, none⟩) M cd, .func (.func 172) #[] #[.pointer (some ⟨w.heap.size + 1 + 1 + 1, 0, none⟩)], v1, v2, undef, undef, undef, undef, undef, undef, undef, undef, undef, undef, undef, undef, undef, undef, undef, undef, undef, undef], defers := [] }) ?assign ?body ?done ?stop)
  case abd => exact fun t X Y ⟨h1, h2, h3⟩ hs => ⟨h1, h2.stq hs (by omega), h3⟩
  case abdx => exact fun k t X Y ⟨h1, v, h2, h3, h4, h5⟩ hs => ⟨h1, v, h2, h3, h4, h5.stq hs (by omega)⟩
  case hrd =>
    rintro t X ⟨h1, h2, h3⟩ ht
    have hcl := HCL.out
    refine ⟨.int .i64 (c.getD (M - 1 - t) 0), by rw [h2.bB.cell]; rfl, g, 0, rfl, ?_⟩
    rw [h2.d.cell, Nat.zero_add]
    simp only [intCells, List.getElem?_toArray, List.getElem?_map]
    rw [zeroTo_at (by omega), if_pos (by omega)]
    rfl
  case assign =>
    intro l v1 v2 Wz K hK
    gi_wp2
    exact hK
  case body =>
    rintro l t u Y hl ⟨h1, h2, h3⟩ ht -
    have hcl := HCL.out
    have hfl := HFL.out
    obtain ⟨v, hv⟩ : ∃ v, v = M - 1 - t := ⟨_, rfl⟩
    have hv1 : M - t = v + 1 := by omega
    have hv2 : M - (t + 1) = v := by omega
    have hvM : v < M := by omega
    rw [hv1] at h2 h3
    rw [← hv]
    have HFI := Lib.hid h2.fI
    obtain ⟨bf, of, fv, hF, hbf, hfv, hcf⟩ := h2.fI.at_ (k := v) (by omega)
    subst hF
    have hcd : Y.cell? ⟨g, v, none⟩ = some (.int .i64 (c.getD v 0)) := by
      rw [h2.d.cell]
      simp only [intCells, List.getElem?_toArray, List.getElem?_map]
      rw [zeroTo_at (by omega), if_pos (Nat.lt_succ_self _)]
      rfl
    have hfd := h2.d.frozen v
    have hD : Y.cell? ⟨w.heap.size, 0, none⟩ = some (.slice (some ⟨g, 0, none⟩) M cd) := by rw [h2.bD.cell]; rfl
    have hFF : Y.cell? ⟨w.heap.size + 1, 0, none⟩ = some (.slice (some ⟨bf, of, none⟩) M cf) := by rw [h2.bF.cell]; rfl
    have hR : Y.cell? ⟨w.heap.size + 1 + 1, 0, none⟩ = some (.bool false) := by rw [h2.bR.cell]; rfl
    have hRf := h2.bR.frozen 0
    have hfg : f.getD v 0 = fv := by rw [List.getD, hfv]; rfl
    have hv0 : (0 : Int) ≤ (v : Int) := Int.natCast_nonneg _
    have hv9 : (v : Int) < (M : Int) := by omega
    have hc9 := HC.out v
    have hz : IntKind.i64.wrap (c.getD v 0 + 1) = c.getD v 0 + 1 := by rw [IntKind.wrap_i64]; omega
    obtain ⟨cv, hcv⟩ : ∃ z, z = c.getD v 0 := ⟨_, rfl⟩
    rw [← hcv] at hcd hz
    have HI := Lib.hid h2
    have HH := Lib.hid h3
    have HCV := Lib.hid hcv
    have HFG := Lib.hid hfg
    have HV2 := Lib.hid hv2
    have hbw := hbf
    clear h2 h3 hcv hfg hc9 hv hv1 hv2 hfv hbf
    by_cases hlt : cv < fv
    · have t1 : decide (cv < fv) = true := decide_eq_true hlt
      have HFIN := Lib.hid (show RndB W4.heap.size Y ((Y.setCell ⟨g, v, none⟩ (.int .i64 (cv + 1))).setCell ⟨w.heap.size + 1 + 1, 0, none⟩ (.bool true)).drew ∧ (Code.ret = Code.ret ∧ ∃ va, va < M ∧ c.getD va 0 < f.getD va 0 ∧ (∀ u, va < u → u < M → f.getD u 0 ≤ c.getD u 0) ∧ AdvI w ((Y.setCell ⟨g, v, none⟩ (.int .i64 (cv + 1))).setCell ⟨w.heap.size + 1 + 1, 0, none⟩ (.bool true)).drew g M cd cf (some ⟨bf, of, none⟩) f (upB c va) true) from by
        have q1 := HI.out.put (v := v) hg HNE.out (cv + 1)
        have e : (zeroTo c (v + 1)).set v (cv + 1) = upB c v := by rw [HCV.out, zeroTo_up (by omega)]
        rw [e] at q1
        have q2 := q1.say hg (fun b off e => HFB.out b off e (by omega)) true
        refine ⟨((RndB.set hcd).trans (RndB.set (u := .bool false) ?_)).trans (RndB.of_below ((Below.refl _ _).drew) _), rfl, v, hvM, ?_, HH.out, q2.stq (Stq.of_below ((Below.refl _ _).drew) w.heap.size) (Nat.le_refl _)⟩
        · rw [q1.bR.cell]; rfl
        · rw [← HCV.out, HFG.out]; exact hlt)
      have mixed : Try.prog.follows .mixedOrders = true := by kernel_rfl
      have HS0 := Lib.hid (show (fun W : World => W.cell? ⟨w.heap.size, 0, none⟩ = some (.slice (some ⟨g, 0, none⟩) M cd) ∧ W.cell? ⟨w.heap.size + 1, 0, none⟩ = some (.slice (some ⟨bf, of, none⟩) M cf) ∧ W.cell? ⟨g, v, none⟩ = some (.int .i64 cv) ∧ W.cell? ⟨bf, of + v, none⟩ = some (.int .i64 fv)) Y.drew from ⟨hD, hFF, hcd, hcf⟩)
      gi_wp2_with fail
      refine region_round_held (S := fun W : World => W.cell? ⟨w.heap.size, 0, none⟩ = some (.slice (some ⟨g, 0, none⟩) M cd) ∧ W.cell? ⟨w.heap.size + 1, 0, none⟩ = some (.slice (some ⟨bf, of, none⟩) M cf) ∧ W.cell? ⟨g, v, none⟩ = some (.int .i64 cv) ∧ W.cell? ⟨bf, of + v, none⟩ = some (.int .i64 fv)) mixed (by kernel_rfl) (fun ⟨_, _, h⟩ => h) ?_
      refine wpAnyH_on 0 (some 10) (.slice (some ⟨g, 0, none⟩) M cd) rfl (by kernel_rfl) (by kernel_rfl) (by kernel_rfl) (fun _ _ _ h => h) rfl HS0.out (by rfl) ?_ ?_
      · intro W hSw
        obtain ⟨s1, s2, s3, s4⟩ := hSw
        go_simp
      try simp only [Act.put, List.setIfInBounds_toArray, List.set_cons_zero, List.set_cons_succ]
      refine wpAnyH_on 1 (some 11) (.int .i64 (v : Int)) rfl (by kernel_rfl) (by kernel_rfl) (by kernel_rfl) (fun _ _ _ h => h) rfl HS0.out (by rfl) ?_ ?_
      · intro W hSw
        obtain ⟨s1, s2, s3, s4⟩ := hSw
        go_simp
      try simp only [Act.put, List.setIfInBounds_toArray, List.set_cons_zero, List.set_cons_succ]
      refine wpAnyH_on 2 (some 12) (.pointer (some ⟨g, v, none⟩)) rfl (by kernel_rfl) (by kernel_rfl) (by kernel_rfl) (fun _ _ _ h => h) rfl HS0.out (by rfl) ?_ ?_
      · intro W hSw
        obtain ⟨s1, s2, s3, s4⟩ := hSw
        go_simp
      try simp only [Act.put, List.setIfInBounds_toArray, List.set_cons_zero, List.set_cons_succ]
      refine wpAnyH_on 3 (some 13) (.int .i64 cv) rfl (by kernel_rfl) (by kernel_rfl) (by kernel_rfl) (fun _ _ _ h => h) rfl HS0.out (by rfl) ?_ ?_
      · intro W hSw
        obtain ⟨s1, s2, s3, s4⟩ := hSw
        go_simp
      try simp only [Act.put, List.setIfInBounds_toArray, List.set_cons_zero, List.set_cons_succ]
      refine wpAnyH_on 4 (some 14) (.slice (some ⟨bf, of, none⟩) M cf) rfl (by kernel_rfl) (by kernel_rfl) (by kernel_rfl) (fun _ _ _ h => h) rfl HS0.out (by rfl) ?_ ?_
      · intro W hSw
        obtain ⟨s1, s2, s3, s4⟩ := hSw
        go_simp
      try simp only [Act.put, List.setIfInBounds_toArray, List.set_cons_zero, List.set_cons_succ]
      refine wpAnyH_on 5 (some 15) (.int .i64 (v : Int)) rfl (by kernel_rfl) (by kernel_rfl) (by kernel_rfl) (fun _ _ _ h => h) rfl HS0.out (by rfl) ?_ ?_
      · intro W hSw
        obtain ⟨s1, s2, s3, s4⟩ := hSw
        go_simp
      try simp only [Act.put, List.setIfInBounds_toArray, List.set_cons_zero, List.set_cons_succ]
      refine wpAnyH_on 6 (some 16) (.pointer (some ⟨bf, of + v, none⟩)) rfl (by kernel_rfl) (by kernel_rfl) (by kernel_rfl) (fun _ _ _ h => h) rfl HS0.out (by rfl) ?_ ?_
      · intro W hSw
        obtain ⟨s1, s2, s3, s4⟩ := hSw
        go_simp
      try simp only [Act.put, List.setIfInBounds_toArray, List.set_cons_zero, List.set_cons_succ]
      refine wpAnyH_on 7 (some 17) (.int .i64 fv) rfl (by kernel_rfl) (by kernel_rfl) (by kernel_rfl) (fun _ _ _ h => h) rfl HS0.out (by rfl) ?_ ?_
      · intro W hSw
        obtain ⟨s1, s2, s3, s4⟩ := hSw
        go_simp
      try simp only [Act.put, List.setIfInBounds_toArray, List.set_cons_zero, List.set_cons_succ]
      refine wpAnyH_on 8 (some 18) (.bool (decide (cv < fv))) rfl (by kernel_rfl) (by kernel_rfl) (by kernel_rfl) (fun _ _ _ h => h) rfl HS0.out (by rfl) ?_ ?_
      · intro W hSw
        obtain ⟨s1, s2, s3, s4⟩ := hSw
        go_simp
      try simp only [Act.put, List.setIfInBounds_toArray, List.set_cons_zero, List.set_cons_succ]
      refine wpAnyH_done (by kernel_rfl) ?_ _
      rw [t1]
      gi_wp2
      refine ⟨HFIN.out.1, rfl, ?_⟩
      obtain ⟨va, q1, q2, q3, q4⟩ := HFIN.out.2.2
      exact ⟨va, q1, q2, q3, q4⟩
    · have t1 : decide (cv < fv) = false := decide_eq_false hlt
      have HFIN := Lib.hid (show RndB W4.heap.size Y (Y.drew.setCell ⟨g, v, none⟩ (.int .i64 0)) ∧ (t + 1 ≤ M ∧ AdvI w (Y.drew.setCell ⟨g, v, none⟩ (.int .i64 0)) g M cd cf (some ⟨bf, of, none⟩) f (zeroTo c (M - (t + 1))) false ∧ ∀ u, M - (t + 1) ≤ u → u < M → f.getD u 0 ≤ c.getD u 0) from by
        have hd := (Below.refl Y.heap.size Y).drew
        have q0 := HI.out.stq (Stq.of_below hd w.heap.size) (Nat.le_refl _)
        have q1 := q0.put (v := v) hg HNE.out 0
        rw [zeroTo_less (by omega)] at q1
        rw [HV2.out]
        refine ⟨(RndB.of_below hd _).trans (RndB.set hcd), by omega, q1, fun u hu1 hu2 => ?_⟩
        by_cases e : u = v
        · rw [e, HFG.out, ← HCV.out]; omega
        · exact HH.out u (by omega) hu2)
      have mixed : Try.prog.follows .mixedOrders = true := by kernel_rfl
      have HS0 := Lib.hid (show (fun W : World => W.cell? ⟨w.heap.size, 0, none⟩ = some (.slice (some ⟨g, 0, none⟩) M cd) ∧ W.cell? ⟨w.heap.size + 1, 0, none⟩ = some (.slice (some ⟨bf, of, none⟩) M cf) ∧ W.cell? ⟨g, v, none⟩ = some (.int .i64 cv) ∧ W.cell? ⟨bf, of + v, none⟩ = some (.int .i64 fv)) Y.drew from ⟨hD, hFF, hcd, hcf⟩)
      gi_wp2_with fail
      refine region_round_held (S := fun W : World => W.cell? ⟨w.heap.size, 0, none⟩ = some (.slice (some ⟨g, 0, none⟩) M cd) ∧ W.cell? ⟨w.heap.size + 1, 0, none⟩ = some (.slice (some ⟨bf, of, none⟩) M cf) ∧ W.cell? ⟨g, v, none⟩ = some (.int .i64 cv) ∧ W.cell? ⟨bf, of + v, none⟩ = some (.int .i64 fv)) mixed (by kernel_rfl) (fun ⟨_, _, h⟩ => h) ?_
      refine wpAnyH_on 0 (some 10) (.slice (some ⟨g, 0, none⟩) M cd) rfl (by kernel_rfl) (by kernel_rfl) (by kernel_rfl) (fun _ _ _ h => h) rfl HS0.out (by rfl) ?_ ?_
      · intro W hSw
        obtain ⟨s1, s2, s3, s4⟩ := hSw
        go_simp
      try simp only [Act.put, List.setIfInBounds_toArray, List.set_cons_zero, List.set_cons_succ]
      refine wpAnyH_on 1 (some 11) (.int .i64 (v : Int)) rfl (by kernel_rfl) (by kernel_rfl) (by kernel_rfl) (fun _ _ _ h => h) rfl HS0.out (by rfl) ?_ ?_
      · intro W hSw
        obtain ⟨s1, s2, s3, s4⟩ := hSw
        go_simp
      try simp only [Act.put, List.setIfInBounds_toArray, List.set_cons_zero, List.set_cons_succ]
      refine wpAnyH_on 2 (some 12) (.pointer (some ⟨g, v, none⟩)) rfl (by kernel_rfl) (by kernel_rfl) (by kernel_rfl) (fun _ _ _ h => h) rfl HS0.out (by rfl) ?_ ?_
      · intro W hSw
        obtain ⟨s1, s2, s3, s4⟩ := hSw
        go_simp
      try simp only [Act.put, List.setIfInBounds_toArray, List.set_cons_zero, List.set_cons_succ]
      refine wpAnyH_on 3 (some 13) (.int .i64 cv) rfl (by kernel_rfl) (by kernel_rfl) (by kernel_rfl) (fun _ _ _ h => h) rfl HS0.out (by rfl) ?_ ?_
      · intro W hSw
        obtain ⟨s1, s2, s3, s4⟩ := hSw
        go_simp
      try simp only [Act.put, List.setIfInBounds_toArray, List.set_cons_zero, List.set_cons_succ]
      refine wpAnyH_on 4 (some 14) (.slice (some ⟨bf, of, none⟩) M cf) rfl (by kernel_rfl) (by kernel_rfl) (by kernel_rfl) (fun _ _ _ h => h) rfl HS0.out (by rfl) ?_ ?_
      · intro W hSw
        obtain ⟨s1, s2, s3, s4⟩ := hSw
        go_simp
      try simp only [Act.put, List.setIfInBounds_toArray, List.set_cons_zero, List.set_cons_succ]
      refine wpAnyH_on 5 (some 15) (.int .i64 (v : Int)) rfl (by kernel_rfl) (by kernel_rfl) (by kernel_rfl) (fun _ _ _ h => h) rfl HS0.out (by rfl) ?_ ?_
      · intro W hSw
        obtain ⟨s1, s2, s3, s4⟩ := hSw
        go_simp
      try simp only [Act.put, List.setIfInBounds_toArray, List.set_cons_zero, List.set_cons_succ]
      refine wpAnyH_on 6 (some 16) (.pointer (some ⟨bf, of + v, none⟩)) rfl (by kernel_rfl) (by kernel_rfl) (by kernel_rfl) (fun _ _ _ h => h) rfl HS0.out (by rfl) ?_ ?_
      · intro W hSw
        obtain ⟨s1, s2, s3, s4⟩ := hSw
        go_simp
      try simp only [Act.put, List.setIfInBounds_toArray, List.set_cons_zero, List.set_cons_succ]
      refine wpAnyH_on 7 (some 17) (.int .i64 fv) rfl (by kernel_rfl) (by kernel_rfl) (by kernel_rfl) (fun _ _ _ h => h) rfl HS0.out (by rfl) ?_ ?_
      · intro W hSw
        obtain ⟨s1, s2, s3, s4⟩ := hSw
        go_simp
      try simp only [Act.put, List.setIfInBounds_toArray, List.set_cons_zero, List.set_cons_succ]
      refine wpAnyH_on 8 (some 18) (.bool (decide (cv < fv))) rfl (by kernel_rfl) (by kernel_rfl) (by kernel_rfl) (fun _ _ _ h => h) rfl HS0.out (by rfl) ?_ ?_
      · intro W hSw
        obtain ⟨s1, s2, s3, s4⟩ := hSw
        go_simp
      try simp only [Act.put, List.setIfInBounds_toArray, List.set_cons_zero, List.set_cons_succ]
      refine wpAnyH_done (by kernel_rfl) ?_ _
      rw [t1]
      gi_wp2
      exact HFIN.out
  case done =>
    rintro Z ⟨h1, h2, h3⟩ hD
    have hR : Z.cell? ⟨w.heap.size + 1 + 1, 0, none⟩ = some (.bool false) := by rw [h2.bR.cell]; rfl
    have hRf := h2.bR.frozen 0
    have HG := Lib.hid (grownBy_new (u := .bool false) (o := 0) h2.gr (show w.heap.size ≤ w.heap.size + 1 + 1 by omega))
    have HX := Lib.hid (show Blk (Z.setCell ⟨w.heap.size + 1 + 1, 0, none⟩ (.bool false)) (w.heap.size + 1 + 1) 4 #[.bool false] from h2.bR.set_ 0 (.bool false))
    have HD := Lib.hid (show (Z.setCell ⟨w.heap.size + 1 + 1, 0, none⟩ (.bool false)).heap[W4.heap.size]? = some (.deferred (some [])) from (Below.heap_setCell _ _ _ _ (by simp only; omega)).trans hD)
    have HH := Lib.hid (show ∀ u, u < M → f.getD u 0 ≤ c.getD u 0 from fun u hu => h3 u (by omega) hu)
    clear h1 h2 h3 hD
    go_wp2
    refine mark_leaveB (B := w.heap.size + 3) (fun h => (by cases h)) (by omega) HD.out fun w' hw' => ?_
    have hx := hw'.block HX.out
    have hxc : w'.cell? ⟨w.heap.size + 1 + 1, 0, none⟩ = some (.bool false) := by rw [Blk.cell (g := w.heap.size + 1 + 1) hx]; rfl
    refine ⟨.bool false, by simp [results, Try.results75, go_sem, hxc], ?_⟩
    exact ⟨false, [], rfl, .inr ⟨rfl, HH.out⟩, fun h => (by cases h), grownBy_stq HG.out hw' (by omega)⟩
  case stop =>
    rintro k t Z ⟨rfl, v, h2, h3, h4, h5⟩ hD
    have HI := Lib.hid h5
    have HD := Lib.hid hD
    clear h5 hD
    gi_wp2
    refine mark_leaveB (B := w.heap.size + 4) (fun h => (by cases h)) (by omega) HD.out fun w' hw' => ?_
    have q := HI.out.stq hw' (by omega)
    have hxc : w'.cell? ⟨w.heap.size + 1 + 1, 0, none⟩ = some (.bool true) := by rw [q.bR.cell]; rfl
    refine ⟨.bool true, by simp [results, Try.results75, go_sem, hxc], ?_⟩
    exact ⟨true, _, rfl, .inl ⟨rfl, v, h2, h3, h4, rfl⟩, fun _ => q.d, q.gr⟩
end Go.Proofs.Ytdpojcgeblbfeaa
