/- What firing a small script makes of a small divisor: another divisor of the same class, degree, reduced divisor (drawn graphs: 2 to 5 vertices, at most 8 edges). -/
import Derived.Test.YtcfhkaefjhcglaaCls
import Derived.Test.YtcfhkaefjhcglaaBG
import Derived.Test.YtcfhkaefjhcglaaChipAt
namespace Go.Proofs.Ytcfhkaefjhcglaa
open Go.RowKit

theorem divB_ofC {m : Int} {M : Nat} {es : List (Int × Int)} {d : List Int} (hg : graphB (M : Int) es = true) (hl : d.length = M) (hb : ∀ x ∈ d, -m ≤ x ∧ x ≤ m) : divB m (M : Int) es d = true := by
  rw [divB_a hg (by omega), List.all_eq_true]
  exact fun x hx => within_t (hb x hx)
theorem getD_boundC {d : List Int} {lo hi : Int} (hb : ∀ x ∈ d, lo ≤ x ∧ x ≤ hi) (h0 : lo ≤ 0) (h1 : 0 ≤ hi) (u : Nat) : lo ≤ d.getD u 0 ∧ d.getD u 0 ≤ hi := by
  cases hu : d[u]? with
  | none => simp only [List.getD, hu, Option.getD_none]; omega
  | some x =>
    simp only [List.getD, hu, Option.getD_some]
    exact hb x (List.mem_of_getElem? hu)
theorem chipsOf_allC {M : Nat} {f : Nat → Int} {lo hi : Int} (h0 : -9223372036854775808 ≤ lo) (h1 : hi ≤ 9223372036854775807) (h : ∀ u, u < M → lo ≤ f u ∧ f u ≤ hi) : ∀ x ∈ chipsOf M f, lo ≤ x ∧ x ≤ hi := fun x hx => by
  obtain ⟨i, hi⟩ := List.getElem?_of_mem hx
  have hl := (List.getElem?_eq_some_iff.1 hi).1
  rw [chipsOf_len] at hl
  rw [chipsOf_at f hl] at hi
  injection hi with hi
  have := h i hl
  rw [wrap64_of (by omega) (by omega)] at hi
  omega
theorem chipsOf_getC {M : Nat} {f : Nat → Int} {u : Nat} (hu : u < M) (h : -9223372036854775808 ≤ f u ∧ f u ≤ 9223372036854775807) : (chipsOf M f)[u]? = some (f u) ∧ (chipsOf M f).getD u 0 = f u := by
  have h1 := chipsOf_at f hu
  rw [wrap64_of h.1 h.2] at h1
  exact ⟨h1, by simp [List.getD, h1]⟩
/-- the degree is the sum, where nothing wraps -/
theorem deg_sum {xs : List Int} (h : ∀ u, -1000000 ≤ xs.getD u 0 ∧ xs.getD u 0 ≤ 1000000) : ∀ j : Nat, j ≤ 1000 → degB xs j = sumV (fun u => xs.getD u 0) j ∧ -(1000000 * (j : Int)) ≤ degB xs j ∧ degB xs j ≤ 1000000 * (j : Int)
  | 0, _ => by simp [degB, sumV]
  | j + 1, hj => by
    obtain ⟨h1, h2, h3⟩ := deg_sum h j (by omega)
    have h4 := h j
    rw [degB, wrap64_of (by omega) (by omega), sumV, ← h1]
    refine ⟨rfl, ?_, ?_⟩ <;> omega
theorem sumV_eqC {f g : Nat → Int} : ∀ {M : Nat}, (∀ u, u < M → f u = g u) → sumV f M = sumV g M
  | 0, _ => rfl
  | M + 1, h => by rw [sumV, sumV, sumV_eqC (fun u hu => h u (by omega)), h M (by omega)]
section
variable {M : Nat} {es : List (Int × Int)} {d t : List Int}
structure FireCls (M : Nat) (es : List (Int × Int)) (d t : List Int) (e : List Int) : Prop where
  is : firedB M es d t = e
  len : e.length = M
  ddiv : divB 60 (M : Int) es d = true
  tdiv : divB 100000 (M : Int) es t = true
  div : divB 60 (M : Int) es e = true
  get : ∀ u, u < M → e.getD u 0 = Dv d es (fun i => t.getD i 0) u
  deg : degB e e.length = degB d d.length
  red : redR (M : Int) es e 0 = redR (M : Int) es d 0
  eqv : eqvB (M : Int) es d e = true
  qve : eqvB (M : Int) es e d = true
  scr : ∃ f : Nat → Int, (∀ u, u < M → -100000 ≤ f u ∧ f u ≤ 100000) ∧ scrR (M : Int) es d 0 = chipsOf M f ∧ scrR (M : Int) es e 0 = chipsOf M fun i => f i + (-t.getD i 0 + t.getD 0 0)
theorem fireCls (hg : graphB (M : Int) es = true) (hM0 : 0 < M) (hM5 : M ≤ 5) (hel : es.length ≤ 8) (hdl : d.length = M) (hbd : ∀ x ∈ d, -2 ≤ x ∧ x ≤ 6) (htl : t.length = M) (hbt : ∀ x ∈ t, -3 ≤ x ∧ x ≤ 3) (hex : ∃ f, IsRed M es d 0 f) : FireCls M es d t (firedB M es d t) := by
  obtain ⟨f0, hf0⟩ := hex
  have hf := redF_is hf0
  have hes : ∀ e ∈ es, 0 ≤ e.1 ∧ e.1 < e.2 ∧ e.2 < (M : Int) := fun e he => all_edge (graphB_all hg).1 he
  have hcut : Cut M es := (graphB_all hg).2.cut
  obtain ⟨f, hff⟩ : ∃ f, f = redF M es d 0 := ⟨_, rfl⟩
  rw [← hff] at hf
  have hgd := getD_boundC hbd (by omega) (by omega)
  have hsm := fun u hu => hf.small hcut hM5 hM0 hel (fun u _ => hgd u) (fun u => by have := hgd u; omega) hes u hu
  have dd : divB 60 (M : Int) es d = true := divB_ofC hg hdl (fun x hx => by have := hbd x hx; omega)
  have hR : redR (M : Int) es d 0 = chipsOf M (Dv d es f) := by
    rw [redR_t (div_burn dd), Int.toNat_natCast, hff]
    rfl
  have hgt := getD_boundC hbt (by omega) (by omega)
  have hE : firedB M es d t = chipsOf M (Dv d es fun i => t.getD i 0) := by
    unfold firedB
    exact chipsOf_eq fun u _ => by rw [Dv, terms_F]
  have hEb : ∀ u, u < M → -60 ≤ Dv d es (fun i => t.getD i 0) u ∧ Dv d es (fun i => t.getD i 0) u ≤ 60 := fun u _ => by
    have h1 := termsF_bound (f := fun i => t.getD i 0) (K := 3) u M (fun v _ => hgt v) es hes
    have h2 := hgd u
    unfold Dv
    omega
  have hEa := chipsOf_allC (lo := -60) (hi := 60) (by omega) (by omega) hEb
  have ed : divB 60 (M : Int) es (chipsOf M (Dv d es fun i => t.getD i 0)) = true := divB_ofC hg (chipsOf_len _ _) hEa
  have hget : ∀ u, u < M → (chipsOf M (Dv d es fun i => t.getD i 0)).getD u 0 = Dv d es (fun i => t.getD i 0) u := fun u hu => (chipsOf_getC hu (by have := hEb u hu; omega)).2
  obtain ⟨hD, hIs⟩ := hf.fired (e := chipsOf M (Dv d es fun i => t.getD i 0)) (t := fun i => t.getD i 0) hM0 hget (fun u _ => by have := hgt u; omega) (fun u hu => (hsm u hu).2)
  have hEg := getD_boundC hEa (by omega) (by omega)
  have hred : redR (M : Int) es (chipsOf M (Dv d es fun i => t.getD i 0)) 0 = redR (M : Int) es d 0 := by
    rw [hR, redR_t (div_burn ed), Int.toNat_natCast]
    have h1 := (redF_eq hIs hM0 (by omega) (fun u => by have := hEg u; omega) hes).2
    show chipsOf M (Dv _ es (redF M es _ 0)) = _
    rw [← h1]
    exact chipsOf_eq hD
  have hdeg : degB (chipsOf M (Dv d es fun i => t.getD i 0)) M = degB d M := by
    rw [(deg_sum (fun u => by have := hEg u; omega) M (by omega)).1, (deg_sum (fun u => by have := hgd u; omega) M (by omega)).1, sumV_eqC hget, Dv_sum hes]
  have hscr : scrR (M : Int) es (chipsOf M (Dv d es fun i => t.getD i 0)) 0 = chipsOf M fun i => f i + (-t.getD i 0 + t.getD 0 0) := by
    rw [scrR_t (div_burn ed), Int.toNat_natCast]
    exact (redF_eq hIs hM0 (by omega) (fun u => by have := hEg u; omega) hes).1.symm
  have hscd : scrR (M : Int) es d 0 = chipsOf M f := by
    rw [scrR_t (div_burn dd), Int.toNat_natCast, hff]
    rfl
  rw [hE]
  refine ⟨hE, chipsOf_len _ _, dd, divB_ofC hg htl (fun x hx => by have := hbt x hx; omega), ed, hget, by rw [chipsOf_len, hdl]; exact hdeg, hred, ?_, ?_, f, fun u hu => (hsm u hu).2, hscd, hscr⟩
  · rw [eqv_t dd ed (by rw [chipsOf_len, hdl]; exact hdeg.symm), hred]
    simp
  · rw [eqv_t ed dd (by rw [chipsOf_len, hdl]; exact hdeg), hred]
    simp
theorem leastF_map (a : Int) : ∀ (l : List Int) (x : Int), leastF (x + a) (l.map (· + a)) = leastF x l + a
  | [], x => rfl
  | y :: l, x => by
    rw [List.map_cons, leastF, leastF, ← leastF_map a l]
    congr 1
    omega
theorem leastB_map (a : Int) {l : List Int} (h : 0 < l.length) : leastB (l.map (· + a)) = leastB l + a := by
  cases l with
  | nil => simp at h
  | cons x l => exact leastF_map a l x
/-- a small list lifted -/
theorem liftB_small {l : List Int} (a : Int) (h : 0 < l.length) (hb : ∀ x ∈ l, -1000 ≤ x ∧ x ≤ 1000) : liftB (l.map (· + a)) = l.map (· - leastB l) := by
  have h1 := hb _ (leastB_mem h)
  rw [liftB, leastB_map a h, List.map_map]
  refine List.map_congr_left fun x hx => ?_
  have h2 := hb x hx
  show wrap64 (x + a - (leastB l + a)) = x - leastB l
  rw [wrap64_of (by omega) (by omega)]
  omega
/-- the two scripts between a divisor and what a script makes of it -/
theorem bet_fire {e : List Int} (F : FireCls M es d t e) (hM0 : 0 < M) (htl : t.length = M) (hbt : ∀ x ∈ t, -3 ≤ x ∧ x ≤ 3) :
    betB (M : Int) es d e = t.map (· - leastB t) ∧ betB (M : Int) es e d = (t.map (- ·)).map (· - leastB (t.map (- ·))) := by
  obtain ⟨f, hf, h1, h2⟩ := F.scr
  have hgt := getD_boundC hbt (by omega) (by omega)
  have k1 : subB (scrR (M : Int) es d 0) (scrR (M : Int) es e 0) = t.map (· + -t.getD 0 0) := by
    rw [h1, h2]
    apply List.ext_getElem?
    intro u
    by_cases hu : u < M
    · have g1 := hf u hu
      have g2 := hgt u
      have g3 := hgt 0
      rw [subB_at (chipsOf_getC hu (by omega)).1 (chipsOf_getC (f := fun i => f i + (-t.getD i 0 + t.getD 0 0)) hu (by omega)).1, wrap64_of (by omega) (by omega), List.getElem?_map, List.getElem?_eq_getElem (by omega)]
      rw [show t.getD u 0 = t[u]'(by omega) by simp [List.getD, htl, hu]]
      simp only [Option.map_some, Option.some.injEq]
      omega
    · rw [List.getElem?_eq_none (by rw [subB_len, chipsOf_len]; omega), List.getElem?_eq_none (by rw [List.length_map]; omega)]
  have k2 : subB (scrR (M : Int) es e 0) (scrR (M : Int) es d 0) = (t.map (- ·)).map (· + t.getD 0 0) := by
    rw [h1, h2]
    apply List.ext_getElem?
    intro u
    by_cases hu : u < M
    · have g1 := hf u hu
      have g2 := hgt u
      have g3 := hgt 0
      rw [subB_at (chipsOf_getC (f := fun i => f i + (-t.getD i 0 + t.getD 0 0)) hu (by omega)).1 (chipsOf_getC hu (by omega)).1, wrap64_of (by omega) (by omega), List.getElem?_map, List.getElem?_map, List.getElem?_eq_getElem (by omega)]
      rw [show t.getD u 0 = t[u]'(by omega) by simp [List.getD, htl, hu]]
      simp only [Option.map_some, Option.some.injEq]
      omega
    · rw [List.getElem?_eq_none (by rw [subB_len, chipsOf_len]; omega), List.getElem?_eq_none (by rw [List.length_map, List.length_map]; omega)]
  rw [bet_t F.eqv, bet_t F.qve, k1, k2]
  refine ⟨liftB_small _ (by omega) fun x hx => by have := hbt x hx; omega, liftB_small _ (by rw [List.length_map]; omega) fun x hx => ?_⟩
  obtain ⟨y, hy, rfl⟩ := List.mem_map.1 hx
  have := hbt y hy
  omega
/-- firing the script between leads there -/
theorem bet_fires {e : List Int} (F : FireCls M es d t e) (hM0 : 0 < M) (htl : t.length = M) (hbt : ∀ x ∈ t, -3 ≤ x ∧ x ≤ 3) : firedB M es d (betB (M : Int) es d e) = e ∧ (∀ x ∈ betB (M : Int) es d e, 0 ≤ x ∧ x ≤ 6) ∧ leastB (betB (M : Int) es d e) = 0 ∧ (betB (M : Int) es d e).length = M := by
  have h1 := (bet_fire F hM0 htl hbt).1
  have hm := hbt _ (leastB_mem (l := t) (by omega))
  refine ⟨?_, fun x hx => ?_, ?_, by rw [h1, List.length_map, htl]⟩
  · rw [h1]
    refine Eq.trans ?_ F.is
    have hes : ∀ e ∈ es, 0 ≤ e.1 ∧ e.1 < e.2 ∧ e.2 < (M : Int) := fun e he => all_edge (graphB_all (divB_all F.ddiv).1).1 he
    unfold firedB
    refine chipsOf_eq fun u _ => ?_
    rw [terms_F, terms_F]
    have h2 := termsF_add (fun i => t.getD i 0) (fun _ => -leastB t) u es
    rw [termsF_const] at h2
    rw [termsF_congr (f := fun i => (t.map (· - leastB t)).getD i 0) (g := fun i => t.getD i 0 + -leastB t) u es fun e he => ?_, h2]
    · omega
    · have h3 := hes e he
      have h4 : ∀ i : Nat, i < M → (t.map (· - leastB t)).getD i 0 = t.getD i 0 + -leastB t := fun i hi => by
        have hi' : i < t.length := by omega
        simp [List.getD, hi']
        omega
      exact ⟨h4 _ (by omega), h4 _ (by omega)⟩
  · rw [h1] at hx
    obtain ⟨y, hy, rfl⟩ := List.mem_map.1 hx
    have h2 := hbt y hy
    have h3 := leastB_le hy
    omega
  · have h2 := leastB_map (-leastB t) (l := t) (by omega)
    rw [h1]
    have h3 : (t.map (· - leastB t)) = t.map (· + -leastB t) := List.map_congr_left fun x _ => by omega
    rw [h3, h2]
    omega
/-- the opposite script leads back -/
theorem fire_back {e : List Int} (F : FireCls M es d t e) (hdl : d.length = M) (hbd : ∀ x ∈ d, -2 ≤ x ∧ x ≤ 6) (htl : t.length = M) : firedB M es e (t.map (- ·)) = d := by
  have hes : ∀ e ∈ es, 0 ≤ e.1 ∧ e.1 < e.2 ∧ e.2 < (M : Int) := fun e he => all_edge (graphB_all (divB_all F.ddiv).1).1 he
  refine Eq.trans ?_ (chips_start hdl fun x hx => by have := hbd x hx; omega)
  unfold firedB
  refine chipsOf_eq fun u hu => ?_
  rw [terms_F, termsF_congr (f := fun i => (t.map (- ·)).getD i 0) (g := fun i => -t.getD i 0) u es fun e he => ?_, termsF_neg, F.get u hu, Dv]
  · omega
  · have h3 := hes e he
    have h4 : ∀ i : Nat, i < M → (t.map (- ·)).getD i 0 = -t.getD i 0 := fun i hi => by
      have hi' : i < t.length := by omega
      simp [List.getD, hi']
    exact ⟨h4 _ (by omega), h4 _ (by omega)⟩
/-- firing every vertex once changes nothing -/
theorem fire_every {l : List Int} (hes : ∀ e ∈ es, 0 ≤ e.1 ∧ e.1 < e.2 ∧ e.2 < (M : Int)) (hdl : d.length = M) (hbd : ∀ x ∈ d, -2 ≤ x ∧ x ≤ 6) (hl : ∀ u : Nat, u < M → (u : Int) ∈ l) : firedB M es d (setL M l) = d := by
  refine Eq.trans ?_ (chips_start hdl fun x hx => by have := hbd x hx; omega)
  unfold firedB
  refine chipsOf_eq fun u _ => ?_
  rw [terms_F, termsF_congr (f := fun i => (setL M l).getD i 0) (g := fun _ => 1) u es fun e he => ?_, termsF_const]
  · omega
  · have h3 := hes e he
    have h4 : ∀ i : Nat, i < M → (setL M l).getD i 0 = 1 := fun i hi => by
      rw [List.getD, setL_at l hi, if_pos (hl i hi)]
      rfl
    exact ⟨h4 _ (by omega), h4 _ (by omega)⟩
/-- what lies between a divisor and what a script makes of it is principal -/
theorem diff_prin {e x : List Int} (F : FireCls M es d t e) (hM0 : 0 < M) (hM5 : M ≤ 5) (hel : es.length ≤ 8) (hdl : d.length = M) (hbd : ∀ x ∈ d, -2 ≤ x ∧ x ≤ 6) (htl : t.length = M) (hbt : ∀ x ∈ t, -3 ≤ x ∧ x ≤ 3) (hex : ∃ f, IsRed M es (List.replicate M 0) 0 f)
    (hxl : x.length = M) (hx : ∀ u, u < M → x[u]? = some (wrap64 (d.getD u 0 + wrap64 (-e.getD u 0)))) : prinB (M : Int) es x = true := by
  have hg := (divB_all F.ddiv).1
  have hes : ∀ e ∈ es, 0 ≤ e.1 ∧ e.1 < e.2 ∧ e.2 < (M : Int) := fun e he => all_edge (graphB_all hg).1 he
  have Z := fireCls (d := List.replicate M 0) (t := t.map (- ·)) hg hM0 hM5 hel (by simp) (fun y hy => by rw [List.eq_of_mem_replicate hy]; omega) (by rw [List.length_map, htl]) (fun y hy => by
    obtain ⟨z, hz, rfl⟩ := List.mem_map.1 hy
    have := hbt z hz
    omega) hex
  have hxe : x = firedB M es (List.replicate M 0) (t.map (- ·)) := by
    apply List.ext_getElem?
    intro u
    by_cases hu : u < M
    · have hgd := getD_boundC hbd (by omega) (by omega) u
      have hgt := getD_boundC hbt (by omega) (by omega)
      have h1 := termsF_bound (f := fun i => t.getD i 0) (K := 3) u M (fun v _ => hgt v) es hes
      have h2 := F.get u hu
      unfold Dv at h2
      rw [hx u hu]
      unfold firedB
      rw [chipsOf_at _ hu, terms_F, termsF_congr (f := fun i => (t.map (- ·)).getD i 0) (g := fun i => -t.getD i 0) u es fun e he => ?_, termsF_neg, h2]
      · rw [wrap64_of (n := -(d.getD u 0 + termsF (fun i => t.getD i 0) u es)) (by omega) (by omega)]
        have h5 : (List.replicate M (0 : Int)).getD u 0 = 0 := by simp [List.getD, hu]
        rw [h5]
        congr 2
        omega
      · have h3 := hes e he
        have h4 : ∀ i : Nat, i < M → (t.map (- ·)).getD i 0 = -t.getD i 0 := fun i hi => by
          have hi' : i < t.length := by omega
          simp [List.getD, hi']
        exact ⟨h4 _ (by omega), h4 _ (by omega)⟩
    · rw [List.getElem?_eq_none (by omega), List.getElem?_eq_none (by rw [Z.len]; omega)]
  unfold prinB
  rw [hxe, Z.div, Int.toNat_natCast, Z.qve]
  rfl
end
end Go.Proofs.Ytcfhkaefjhcglaa
