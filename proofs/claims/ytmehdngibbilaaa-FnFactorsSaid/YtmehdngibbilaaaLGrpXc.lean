/- The critical group: the program's multiples: timesOf. -/
import Derived.Test.YtmehdngibbilaaaLGrpXb
import Derived.Test.YtmehdngibbilaaaLBR
namespace Go.Proofs.Ytmehdngibbilaaa
open Go.RowKit

noncomputable def bitsF (M : Nat) (es : List (Int × Int)) : Nat → List Int → Nat → List (List Int)
  | 0, _, _ => []
  | j + 1, t, n => if n = 0 then [] else (if n % 2 = 1 then [t] else []) ++ bitsF M es j (rdc M es (plusL M t t)) (n / 2)
theorem bitsF_zero {M : Nat} {es : List (Int × Int)} {j : Nat} {t : List Int} : bitsF M es j t 0 = [] := by cases j <;> simp [bitsF]
theorem bitsF_len {M : Nat} {es : List (Int × Int)} : ∀ (j : Nat) (t : List Int) (n : Nat), (bitsF M es j t n).length ≤ j
  | 0, _, _ => by simp [bitsF]
  | j + 1, t, n => by
    rw [bitsF]
    split
    · simp
    · have := bitsF_len (M := M) (es := es) j (rdc M es (plusL M t t)) (n / 2)
      rw [List.length_append]
      split <;> simp <;> omega
theorem bitsF_zer {m : Nat} {es : List (Int × Int)} (h : Gx m es) : ∀ (j : Nat) (t : List Int) (n : Nat), ZerL m t → ∀ r ∈ bitsF (m + 1) es j t n, ZerL m r
  | 0, _, _, _, r, hr => by simp [bitsF] at hr
  | j + 1, t, n, ht, r, hr => by
    rw [bitsF] at hr
    split at hr
    · simp at hr
    · rw [List.mem_append] at hr
      rcases hr with hr | hr
      · split at hr
        · rw [List.mem_singleton] at hr
          exact hr ▸ ht
        · simp at hr
      · exact bitsF_zer h j _ _ (ht.plusR h ht) r hr
theorem bits_eqv {m : Nat} {es : List (Int × Int)} (h : Gx m es) : ∀ (j : Nat) (t : List Int) (n : Nat) (z : List Int), ZerL m t → ZerL m z → n < 2 ^ j →
    Eqv (m + 1) es (gt (foldC (m + 1) es z (bitsF (m + 1) es j t n))) (fun u => gt z u + (n : Int) * gt t u)
  | 0, t, n, z, _, _, hn => by
    have : n = 0 := by simpa using hn
    subst this
    rw [bitsF]
    exact Eqv.of_eq fun u _ => by simp [foldC]
  | j + 1, t, n, z, ht, hz, hn => by
    rw [bitsF]
    by_cases h0 : n = 0
    · rw [if_pos h0]
      subst h0
      exact Eqv.of_eq fun u _ => by simp [foldC]
    · rw [if_neg h0]
      have hlt : n / 2 < 2 ^ j := by rw [Nat.pow_succ] at hn; omega
      have ht2 := ht.plusR h ht
      have hr := h.rdc (plusL_len (m + 1) t t) fun u => by have := plusL_lim (M := m + 1) ht.lim ht.lim (by omega) (by omega) u; omega
      have e2 : Eqv (m + 1) es (fun u => ((n / 2 : Nat) : Int) * gt (rdc (m + 1) es (plusL (m + 1) t t)) u) (fun u => ((n / 2 * 2 : Nat) : Int) * gt t u) := by
        refine (hr.eqv.symm.mul ((n / 2 : Nat) : Int)).trans (Eqv.of_eq fun u hu => ?_)
        rw [plusL_gt hu, Int.natCast_mul, Int.mul_assoc]
        congr 1
        omega
      by_cases h1 : n % 2 = 1
      · rw [if_pos h1]
        have hz2 := hz.plusR h ht
        have ih := bits_eqv h j _ (n / 2) _ ht2 hz2 hlt
        have hr1 := h.rdc (plusL_len (m + 1) z t) fun u => by have := plusL_lim (M := m + 1) hz.lim ht.lim (by omega) (by omega) u; omega
        show Eqv (m + 1) es (gt (foldC (m + 1) es (rdc (m + 1) es (plusL (m + 1) z t)) _)) _
        refine ih.trans ((hr1.eqv.symm.add e2).congr (fun u _ => rfl) fun u hu => ?_)
        rw [plusL_gt hu]
        have hnn : (n : Int) = ((n / 2 * 2 : Nat) : Int) + 1 := by omega
        rw [hnn, Int.add_mul, Int.one_mul]
        omega
      · rw [if_neg h1, List.nil_append]
        have ih := bits_eqv h j _ (n / 2) z ht2 hz hlt
        refine ih.trans (((Eqv.refl (gt z)).add e2).congr (fun u _ => rfl) fun u hu => ?_)
        have hnn : (n : Int) = ((n / 2 * 2 : Nat) : Int) := by omega
        rw [hnn]
theorem foldC_red {m : Nat} {es : List (Int × Int)} (h : Gx m es) : ∀ (ts : List (List Int)) (z : List Int), ZerL m z → RedN (m + 1) es 0 z → (∀ u, -55 ≤ gt z u ∧ gt z u ≤ 11) → (∀ t ∈ ts, ZerL m t) → RedN (m + 1) es 0 (foldC (m + 1) es z ts) ∧ ∀ u, -55 ≤ gt (foldC (m + 1) es z ts) u ∧ gt (foldC (m + 1) es z ts) u ≤ 11
  | [], _, _, hr, hb, _ => ⟨hr, hb⟩
  | t :: ts, z, hz, _, _, ht => by
    have ht1 := ht t (by simp)
    have hr := h.rdc (plusL_len (m + 1) z t) fun u => by have := plusL_lim (M := m + 1) hz.lim ht1.lim (by omega) (by omega) u; omega
    have hsum : sumN (m + 1) (gt (plusL (m + 1) z t)) = 0 := by
      rw [sumN_congr (g := fun u => gt z u + gt t u) _ fun u hu => plusL_gt hu, sumN_add, hz.sum, ht1.sum]
      rfl
    exact foldC_red h ts _ (hz.plusR h ht1) hr.red (fun u => hr.zero h.m5 hsum u) fun x hx => ht x (by simp [hx])
theorem bits_it {m : Nat} {es : List (Int × Int)} (h : Gx m es) {a : List Int} (ha : ZerL m a) {n : Nat} (hn : n < 1024) : foldC (m + 1) es (List.replicate (m + 1) 0) (bitsF (m + 1) es 10 a n) = itR (m + 1) es (rdc (m + 1) es a) n := by
  have hz := ZerL.none (m := m)
  have hr := h.rdc ha.len fun u => by have := ha.lim u; omega
  have hzr := ha.redZ h
  obtain ⟨h1, h2⟩ := foldC_red h (bitsF (m + 1) es 10 a n) (List.replicate (m + 1) 0) hz h.none (fun u => by rw [gt_rep]; omega) (bitsF_zer h 10 a n ha)
  have he := bits_eqv h 10 a n (List.replicate (m + 1) 0) ha hz (by simpa using hn)
  have hi := ItR.all h hzr.lim hzr.sum n
  refine hi.uniq h ⟨h1, ?_, h2, (ZerL.fold h _ _ hz (bitsF_zer h 10 a n ha)).sum⟩ |>.symm
  exact (he.trans (Eqv.of_eq fun u _ => by rw [gt_rep]; omega)).trans (hr.eqv.mul (n : Int))
def ApartV (v : Value) (A : Option Addr) : Prop := ∀ (g b o : Nat), v.ownBlock = some g → A = some ⟨b, o, none⟩ → b ≠ g
structure RowA (wr : World) (v : Value) (A : Option Addr) (r : List Int) : Prop where
  pos : 0 < r.length
  ints : IntS wr wr.heap.size A r
  apart : ApartV v A
theorem RowA.next {wr w' : World} {v : Value} {A : Option Addr} {r : List Int} (h : RowA wr v A r) (hb : Below wr.heap.size wr w') : RowA w' v A r := ⟨h.pos, h.ints.up_ hb, h.apart⟩
theorem RowA.grown {wr wa w1 : World} {v v' : Value} {A : Option Addr} {r : List Int} (h : RowA wr v A r) (hb : Below wr.heap.size wr wa) (hg : wa.grownBy w1 v.ownBlock) (hat : v'.ownBlock = v.ownBlock ∨ v'.ownBlock = some wa.heap.size) : RowA w1 v' A r := by
  obtain ⟨b, o, e, hlt, hc⟩ := h.ints h.pos
  have hba := hb.size
  refine ⟨h.pos, fun _ => ⟨b, o, e, by have := hg.size; omega, fun i z hz => ?_⟩, fun g b' o' hv hA => ?_⟩
  · refine ((World.cell?_of_block (a := ⟨b, o + i, none⟩) (hg.block b (by omega) fun hq => ?_)).trans (hb.cell (p := ⟨b, o + i, none⟩) hlt)).trans (hc i z hz)
    exact h.apart b b o hq.symm e rfl
  · rw [e] at hA
    injection hA with hA
    injection hA with hA _
    subst hA
    rcases hat with g1 | g1
    · exact h.apart g b o (g1 ▸ hv) e
    · rw [g1] at hv
      injection hv with hv
      omega
structure DblI (wr : World) (B : Nat) (v : Value) (ds : List (List Int)) (At : Option Addr) (t : List Int) : Prop where
  rows : ∃ us, wr.ownsRow B 27 1 v ds.length us ∧ ∀ (i : Nat) (r : List Int), ds[i]? = some r → ∃ (Ai : Option Addr) (ci : Nat), us[i]? = some (.slice Ai r.length ci) ∧ RowA wr v Ai r
  term : RowA wr v At t
theorem DblI.next {wr w' : World} {B : Nat} {v : Value} {ds : List (List Int)} {At : Option Addr} {t : List Int} (h : DblI wr B v ds At t) (hb : Below wr.heap.size wr w') : DblI w' B v ds At t := by
  obtain ⟨us, h1, h2⟩ := h.rows
  refine ⟨⟨us, h1.kept (row := none) ⟨hb.os, hb.tape, hb.output, hb.size, fun i hi _ => hb.block i hi⟩ (Classical.em _), fun i r hr => ?_⟩, h.term.next hb⟩
  obtain ⟨Ai, ci, hu, hra⟩ := h2 i r hr
  exact ⟨Ai, ci, hu, hra.next hb⟩
theorem DblI.turn {wr w' : World} {B : Nat} {v : Value} {ds : List (List Int)} {At A2 : Option Addr} {t t2 : List Int} (h : DblI wr B v ds At t) (hb : Below wr.heap.size wr w') (ho : OwnI w' wr.heap.size A2 t2) (hp : 0 < t2.length) : DblI w' B v ds A2 t2 := by
  have h2 := h.next hb
  refine ⟨h2.rows, hp, ho.ints, fun g b o hv hA => ?_⟩
  obtain ⟨us, h1, -⟩ := h.rows
  have hl := (h1.lt g hv).2
  obtain ⟨b', o', e, hge, -⟩ := ho hp
  rw [e] at hA
  injection hA with hA
  injection hA with hA _
  omega
theorem DblI.push {wr wa w1 : World} {B ct : Nat} {v v' : Value} {ds : List (List Int)} {us : List Value} {At : Option Addr} {t : List Int} (h2 : ∀ (i : Nat) (r : List Int), ds[i]? = some r → ∃ (Ai : Option Addr) (ci : Nat), us[i]? = some (.slice Ai r.length ci) ∧ RowA wr v Ai r) (hl : us.length = ds.length)
    (ht : RowA wr v At t) (hb : Below wr.heap.size wr wa) (h1' : w1.ownsRow B 27 1 v' (ds.length + 1) (us ++ [.slice At t.length ct])) (hg : wa.grownBy w1 v.ownBlock) (hat : v'.ownBlock = v.ownBlock ∨ v'.ownBlock = some wa.heap.size) : DblI w1 B v' (ds ++ [t]) At t := by
  refine ⟨⟨_, by simpa using h1', fun i r hr => ?_⟩, ht.grown hb hg hat⟩
  rw [List.getElem?_append] at hr ⊢
  by_cases hi : i < ds.length
  · rw [if_pos hi] at hr
    rw [if_pos (by omega)]
    obtain ⟨Ai, ci, hu, hra⟩ := h2 i r hr
    exact ⟨Ai, ci, hu, hra.grown hb hg hat⟩
  · rw [if_neg hi] at hr
    rw [if_neg (by omega)]
    have hi2 : i = ds.length := by
      have := (List.getElem?_eq_some_iff.1 hr).1
      simp at this
      omega
    subst hi2
    rw [Nat.sub_self] at hr
    simp at hr
    subst hr
    exact ⟨At, ct, by simp [hl], ht.grown hb hg hat⟩
theorem DblI.ss {wr : World} {B : Nat} {v : Value} {ds : List (List Int)} {At : Option Addr} {t : List Int} (h : DblI wr B v ds At t) : ∃ (T : Option Addr) (ct : Nat), v = .slice T ds.length ct ∧ IntSS wr wr.heap.size T ds := by
  obtain ⟨us, h1, h2⟩ := h.rows
  rcases h1.2 with ⟨e, e0⟩ | ⟨g, cap, cur, e, _, hg, _⟩
  · exact ⟨none, 0, by rw [e, e0], fun hn => by omega⟩
  · subst e
    refine ⟨some ⟨g, 0, none⟩, cap, rfl, fun hn => ⟨g, 0, rfl, (h1.lt g rfl).2, fun i r hr => ?_⟩⟩
    obtain ⟨Ai, ci, hu, hi⟩ := h2 i r hr
    have hil := (List.getElem?_eq_some_iff.1 hr).1
    refine ⟨Ai, ci, ?_, hi.ints⟩
    rw [Nat.zero_add, h1.cellAt i (by omega), hu]
set_option maxRecDepth 100000 in
set_option maxHeartbeats 4000000 in
theorem timesOf_any {m : Nat} {es : List (Int × Int)} (hG : GrL m es) (hx : Gx m es) (A D Z : Option Addr) (c cd cz G B : Nat) (z a : List Int) (n : Nat) (w : World) (hz : ZerL m z) (ha : ZerL m a) (hn : n < 1024) (hA : Adr w (m + 1) es A c G) (hZ : OwnI w B Z z) (hS : IntS w w.heap.size D a) (hB : B ≤ w.heap.size) :
    Calls Try.prog 83 #[.func (.func 116) #[] #[.pointer (some ⟨G, 0, none⟩)], .slice Z (m + 1) cz, .slice D (m + 1) cd, .int .i64 (n : Int)] w fun e w' => ∃ (A2 : Option Addr) (c2 : Nat), e = .returned (.slice A2 (m + 1) c2) ∧ OwnI w' B A2 (foldC (m + 1) es z (bitsF (m + 1) es 10 a n)) ∧ Below w.heap.size w w' := by
  obtain ⟨i1, hj1, hy0, hy1, hy2⟩ := info_parts rowsInfo
  have HBL := Lib.hid (bitsF_len (M := m + 1) (es := es) 10 a n)
  have HSM := Lib.hid (show ∀ (ts : List (List Int)) (T : Option Addr) (ct : Nat) (W : World), ts = bitsF (m + 1) es 10 a n → Below w.heap.size w W → IntSS W W.heap.size T ts → Calls Try.prog 69 #[.func (.func 116) #[] #[.pointer (some ⟨G, 0, none⟩)], .slice Z (m + 1) cz, .slice T ts.length ct] W fun e w' => ∃ (A2 : Option Addr) (c2 : Nat), e = .returned (.slice A2 (m + 1) c2) ∧ OwnI w' B A2 (foldC (m + 1) es z (bitsF (m + 1) es 10 a n)) ∧ Below W.heap.size W w' from fun ts T ct W e hb hT => by
    have hl := HBL.out
    rw [← e] at hl ⊢
    exact sumOf_any hG hx A T Z c ct cz G B z ts W hz (by rw [e]; exact bitsF_zer hx 10 a n ha) (by omega) (hA.next hb) (hZ.below hb) hT (Nat.le_trans hB hb.size))
  have HAD := Lib.hid (show ∀ (t : List Int) (X : Option Addr) (cx : Nat) (W : World), ZerL m t → Below w.heap.size w W → IntS W W.heap.size X t → Calls Try.prog 116 #[.slice X (m + 1) cx, .slice X (m + 1) cx, .pointer (some ⟨G, 0, none⟩)] W fun e w' => ∃ (A2 : Option Addr) (c2 : Nat), e = .returned (.slice A2 (m + 1) c2) ∧ OwnI w' W.heap.size A2 (rdc (m + 1) es (plusL (m + 1) t t)) ∧ Below W.heap.size W w' from fun t X cx W ht hb h2 =>
    adder_any hG A X X c cx cx G W ⟨ht.len, ht.len, fun u => by have := ht.lim u; omega, fun u => by have := ht.lim u; omega⟩ (hA.next hb) h2 h2)
  have HPL := Lib.hid (show ∀ t, ZerL m t → ZerL m (rdc (m + 1) es (plusL (m + 1) t t)) from fun t ht => ht.plusR hx ht)
  have HLN := Lib.hid (show ∀ t, ZerL m t → t.length = m + 1 from fun t ht => ht.len)
  have HZA := Lib.hid ha
  have HD0 := Lib.hid (show DblI w w.heap.size (.slice none 0 0) [] D a from ⟨⟨[], ⟨rfl, .inl ⟨rfl, rfl⟩⟩, fun i r h => by simp at h⟩, by rw [ha.len]; omega, hS, fun g b o h => by cases h⟩)
  obtain ⟨BT, hBT⟩ : ∃ x : Nat → List Int → Nat → List (List Int), x = bitsF (m + 1) es := ⟨_, rfl⟩
  have HBS := Lib.hid (show ∀ j t k, k ≠ 0 → BT (j + 1) t k = (if k % 2 = 1 then [t] else []) ++ BT j (rdc (m + 1) es (plusL (m + 1) t t)) (k / 2) from fun j t k hk => by rw [hBT, bitsF, if_neg hk])
  have HB0 := Lib.hid (show ∀ j t, BT j t 0 = [] from fun j t => by rw [hBT]; exact bitsF_zero)
  rw [← hBT] at HSM HBL ⊢
  clear hG hx hz ha hA hZ hS hBT
  go_enter Try.func83, Try.ntmps83
  go_wp2
  go_loopw [2, 3, 9] (fun s i v wr => ∃ (j x : Nat) (t : List Int) (ds : List (List Int)) (At : Option Addr) (ct : Nat), x < 2 ^ j ∧ x < 1024 ∧ i = .int .i64 (x : Int) ∧ s = .slice At (m + 1) ct ∧ ZerL m t ∧ ds ++ BT j t x = BT 10 a n ∧ DblI wr w.heap.size v ds At t ∧ Below w.heap.size w wr) (fun _ i _ _ => (intOf i).toNat)
  case atStart => exact ⟨10, n, a, [], D, cd, by simpa using hn, hn, rfl, rfl, HZA.out, by simp, HD0.out, Below.refl _ _⟩
  case round =>
    obtain ⟨j, x, t, ds, At, ct, hj, hx, rfl, rfl, hz, he, hd, hb⟩ := hrel
    have HZ := Lib.hid hz
    have HE := Lib.hid he
    have HD := Lib.hid hd
    have HB := Lib.hid hb
    have HJ := Lib.hid hj
    have hds : ds.length ≤ 10 := by have := HBL.out; rw [← he, List.length_append] at this; omega
    have hx0 : (0 : Int) ≤ (x : Int) := Int.natCast_nonneg _
    clear hz he hd hb hj
    by_cases h0 : x = 0
    · subst h0
      have e : ds = BT 10 a n := by rw [← HE.out, HB0.out, List.append_nil]
      obtain ⟨T, cT, rfl, hss⟩ := HD.out.ss
      have HC := Lib.hid (HSM.out ds T cT wr e HB.out hss)
      clear e hss
      go_wp2_with fail
      refine HC.out.mono ?_
      rintro e w2 ⟨A2, c2, rfl, ho2, hb2⟩
      have HO2 := Lib.hid ho2
      have HB2 := Lib.hid (HB.out.trans (hb2.mono HB.out.size))
      clear ho2 hb2
      go_wp2
      go_ret
      exact ⟨A2, c2, rfl, HO2.out, HB2.out⟩
    · have hxp : (0 : Int) < (x : Int) := by omega
      obtain ⟨j, rfl⟩ : ∃ i, j = i + 1 := ⟨j - 1, by
        have := HJ.out
        cases j with
        | zero => simp at this; omega
        | succ j => rfl⟩
      have HJ2 := Lib.hid (show x / 2 < 2 ^ j by have := HJ.out; rw [Nat.pow_succ] at this; omega)
      have hrem : (x : Int).tmod 2 = ((x % 2 : Nat) : Int) := by rw [Int.tmod_eq_emod_of_nonneg (by omega)]; omega
      have hquo : (x : Int).tdiv 2 = ((x / 2 : Nat) : Int) := by rw [Int.tdiv_eq_ediv_of_nonneg (by omega)]; omega
      have HBS2 := Lib.hid (HBS.out j t x h0)
      have hx2 : x / 2 < 1024 := by omega
      have hx3 : x / 2 < x := by omega
      have hw9 : IntKind.i64.wrap ((x / 2 : Nat) : Int) = ((x / 2 : Nat) : Int) := by rw [IntKind.wrap_i64]; omega
      have hlen := HLN.out t HZ.out
      by_cases h1 : x % 2 = 1
      · have t1 : (((x % 2 : Nat) : Int) == 1) = true := by simp [h1]
        rw [if_pos h1] at HBS2
        obtain ⟨us, hown, hrw⟩ := HD.out.rows
        have HOW := Lib.hid hown
        have HRW := Lib.hid hrw
        have HUL := Lib.hid (show us.length = ds.length by have := hown.1; omega)
        have HTM := Lib.hid HD.out.term
        have HSZ := Lib.hid HB.out.size
        have hwl : w.heap.size ≤ wr.heap.size := HB.out.size
        clear hown hrw
        go_wp2_with (at_builtin; refine wpList_append_own_at _ rfl _ _ 30 rfl w.heap.size 27 i1 (.slice none 0 0) 1 24 Try.underlying30 hj1 hy0 hy1 hy2 rfl (by decide) _ _ _ rfl (HOW.out.alloc _) ⟨wr.heap.size, 0, none⟩ 1 1 [.slice At (m + 1) ct] rfl rfl ?c1 ?c2 ?c3 ?c4 ?c5 ?_)
        case c1 => exact one_cell _ _ rfl _ _
        case c2 => simp [Value.oneCell']
        case c3 => unfold maxLen; omega
        case c4 => omega
        case c5 => simp; omega
        intro v5 w5 hown5 hgrow5 _ hat5
        have hba : Below wr.heap.size wr (wr.alloc (.cells #[.slice At (m + 1) ct] 27)) := (Below.refl _ _).alloc (Nat.le_refl _) _
        rw [← hlen] at hown5
        have hd5 := DblI.push HRW.out HUL.out HTM.out hba hown5 hgrow5 (by rw [World.size_alloc]; exact hat5)
        have hb5 : Below w.heap.size w w5 := (HB.out.trans (hba.mono HB.out.size)).grown hgrow5 (Nat.le_trans hwl hba.size) fun q hq => (HOW.out.lt q hq).1
        have HD5 := Lib.hid hd5
        have HB5 := Lib.hid hb5
        have HC := Lib.hid (HAD.out t At ct w5 HZ.out HB5.out HD5.out.term.ints)
        clear hown5 hgrow5 hat5 hba hd5 hb5 HOW HRW HTM HUL
        go_wp2_with fail
        refine HC.out.mono ?_
        rintro e w2 ⟨A2, c2, rfl, ho2, hb2⟩
        have HD2 := Lib.hid (HD5.out.turn hb2 ho2 (by rw [rdc_len]; omega))
        have HB2 := Lib.hid (HB5.out.trans (hb2.mono HB5.out.size))
        have HZ2 := Lib.hid (HPL.out t HZ.out)
        clear ho2 hb2
        go_wp2
        exact ⟨⟨j, x / 2, _, ds ++ [t], A2, c2, HJ2.out, hx2, by go_num, rfl, HZ2.out, by rw [List.append_assoc, ← HBS2.out]; exact HE.out, HD2.out, HB2.out⟩, by simp [intOf]; omega⟩
      · have t1 : (((x % 2 : Nat) : Int) == 1) = false := by simp; omega
        rw [if_neg h1, List.nil_append] at HBS2
        have HC := Lib.hid (HAD.out t At ct wr HZ.out HB.out HD.out.term.ints)
        go_wp2_with fail
        refine HC.out.mono ?_
        rintro e w2 ⟨A2, c2, rfl, ho2, hb2⟩
        have HD2 := Lib.hid (HD.out.turn hb2 ho2 (by rw [rdc_len]; omega))
        have HB2 := Lib.hid (HB.out.trans (hb2.mono HB.out.size))
        have HZ2 := Lib.hid (HPL.out t HZ.out)
        clear ho2 hb2
        go_wp2
        exact ⟨⟨j, x / 2, _, ds, A2, c2, HJ2.out, hx2, by go_num, rfl, HZ2.out, by rw [← HBS2.out]; exact HE.out, HD2.out, HB2.out⟩, by simp [intOf]; omega⟩
end Go.Proofs.Ytmehdngibbilaaa
