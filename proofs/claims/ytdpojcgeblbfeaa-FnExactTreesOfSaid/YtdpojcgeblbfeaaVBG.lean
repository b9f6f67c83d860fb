/- One text out of several: FireM BurnM RdM RdP RdN ClsM. -/
import Derived.RowKit
set_option linter.all false
/- Firing, the plain math: chips after sends, sums over edges, vertices and scripts. -/
namespace Go.Proofs.Ytdpojcgeblbfeaa
open Go.RowKit

theorem wrap64_addL (a b : Int) : wrap64 (wrap64 a + b) = wrap64 (a + b) := by unfold wrap64; omega
theorem wrap64_subL (a b : Int) : wrap64 (wrap64 a - b) = wrap64 (a - b) := by unfold wrap64; omega
theorem wrap64_of {n : Int} (h : -9223372036854775808 ≤ n) (h2 : n ≤ 9223372036854775807) : wrap64 n = n := by unfold wrap64; omega
def chipsOf (M : Nat) (f : Nat → Int) : List Int := (List.range M).map fun u => wrap64 (f u)
theorem chipsOf_len (M : Nat) (f : Nat → Int) : (chipsOf M f).length = M := by simp [chipsOf]
theorem chipsOf_at {M : Nat} (f : Nat → Int) {u : Nat} (h : u < M) : (chipsOf M f)[u]? = some (wrap64 (f u)) := by simp [chipsOf, h]
theorem chipsOf_eq {M : Nat} {f g : Nat → Int} (h : ∀ u, u < M → f u = g u) : chipsOf M f = chipsOf M g := by
  unfold chipsOf
  apply List.map_congr_left
  intro u hu
  rw [h u (List.mem_range.1 hu)]
theorem chipsOf_ext {M : Nat} {f : Nat → Int} {l : List Int} (hl : l.length = M) (h : ∀ u (x : Int), l[u]? = some x → wrap64 (f u) = x) : chipsOf M f = l := by
  apply List.ext_getElem?
  intro u
  by_cases hu : u < M
  · rw [chipsOf_at f hu, List.getElem?_eq_getElem (by omega)]
    rw [h u _ (List.getElem?_eq_getElem (by omega))]
  · rw [List.getElem?_eq_none (by rw [chipsOf_len]; omega), List.getElem?_eq_none (by omega)]
def addAt (f : Nat → Int) (a : Nat) (v : Int) (u : Nat) : Int := if u = a then f u + v else f u
theorem chipsOf_set (M : Nat) (f : Nat → Int) (a : Nat) (x v : Int) (h : x = wrap64 (f a + v)) : (chipsOf M f).set a x = chipsOf M (addAt f a v) := by
  apply List.ext_getElem?
  intro u
  by_cases hu : u < M
  · rw [chipsOf_at _ hu]
    by_cases e : u = a
    · subst e
      rw [List.getElem?_set_self (by rw [chipsOf_len]; exact hu), h, addAt, if_pos rfl]
    · rw [List.getElem?_set_ne (Ne.symm e), chipsOf_at _ hu, addAt, if_neg e]
  · rw [List.getElem?_eq_none (by simp [chipsOf_len]; omega), List.getElem?_eq_none (by rw [chipsOf_len]; omega)]

def ind (u : Nat) (x : Int) : Int := if (u : Int) = x then 1 else 0
def net (v : Int) (u : Nat) (e : Int × Int) : Int := if v = e.1 then ind u e.2 - ind u e.1 else if v = e.2 then ind u e.1 - ind u e.2 else 0
def nets (v : Int) (u : Nat) : List (Int × Int) → Int
  | [] => 0
  | e :: l => net v u e + nets v u l
theorem nets_append (v : Int) (u : Nat) : ∀ a b : List (Int × Int), nets v u (a ++ b) = nets v u a + nets v u b
  | [], b => by simp [nets]
  | e :: a, b => by simp only [List.cons_append, nets, nets_append v u a b]; omega
theorem nets_snoc (v : Int) (u : Nat) {es : List (Int × Int)} {k : Nat} {e : Int × Int} (h : es[k]? = some e) : nets v u (es.take (k + 1)) = nets v u (es.take k) + net v u e := by
  rw [List.take_add_one, h, nets_append]
  simp [nets]
def fireF (f : Nat → Int) (v t : Int) (es : List (Int × Int)) (u : Nat) : Int := f u + t * nets v u es
theorem fireF_nil (f : Nat → Int) (v t : Int) : fireF f v t [] = f := by funext u; simp [fireF, nets]
theorem fireF_step (f : Nat → Int) (v t : Int) {es : List (Int × Int)} {k : Nat} {e : Int × Int} (h : es[k]? = some e) (u : Nat) :
    fireF f v t (es.take (k + 1)) u = fireF f v t (es.take k) u + t * net v u e := by
  rw [fireF, fireF, nets_snoc v u h, Int.mul_add]
  omega
theorem net_1 {v : Int} {e : Int × Int} (h : v = e.1) (u : Nat) : net v u e = ind u e.2 - ind u e.1 := by rw [net, if_pos h]
theorem net_2 {v : Int} {e : Int × Int} (h1 : v ≠ e.1) (h : v = e.2) (u : Nat) : net v u e = ind u e.1 - ind u e.2 := by rw [net, if_neg h1, if_pos h]
theorem net_0 {v : Int} {e : Int × Int} (h1 : v ≠ e.1) (h2 : v ≠ e.2) (u : Nat) : net v u e = 0 := by rw [net, if_neg h1, if_neg h2]
theorem send_f (f : Nat → Int) (a b : Nat) (t : Int) (h : a ≠ b) (u : Nat) : addAt (addAt f a (-t)) b t u = f u + t * (ind u b - ind u a) := by
  unfold addAt ind
  by_cases h1 : u = b
  · subst h1
    rw [if_pos rfl, if_neg (Ne.symm h), if_pos rfl, if_neg (by omega)]
    simp
  · rw [if_neg h1]
    by_cases h2 : u = a
    · subst h2
      rw [if_pos rfl, if_neg (by omega), if_pos rfl]
      simp
    · rw [if_neg h2, if_neg (by omega), if_neg (by omega)]
      simp
theorem chips_start {M : Nat} {d : List Int} (hl : d.length = M) (hw : ∀ x ∈ d, -9223372036854775808 ≤ x ∧ x ≤ 9223372036854775807) : chipsOf M (fun u => d.getD u 0) = d :=
  chipsOf_ext hl fun u x hx => by
    have := hw x (List.mem_of_getElem? hx)
    simp [hx]
    exact wrap64_of this.1 this.2
end Go.Proofs.Ytdpojcgeblbfeaa

/- Burning, the plain math: the heat at a vertex, the next vertex that burns, and all that burn. -/
namespace Go.Proofs.Ytdpojcgeblbfeaa
open Go.RowKit

def heatE (p : Int → Bool) (u : Nat) (e : Int × Int) : Int := (if p e.2 = true then ind u e.1 else 0) + (if p e.1 = true then ind u e.2 else 0)
def heat (p : Int → Bool) (u : Nat) : List (Int × Int) → Int
  | [] => 0
  | e :: l => heatE p u e + heat p u l
theorem ind_01 (u : Nat) (x : Int) : 0 ≤ ind u x ∧ ind u x ≤ 1 := by unfold ind; split <;> omega
theorem heatE_01 (p : Int → Bool) (u : Nat) (e : Int × Int) : 0 ≤ heatE p u e ∧ heatE p u e ≤ 2 := by
  have h1 := ind_01 u e.1
  have h2 := ind_01 u e.2
  unfold heatE
  split <;> split <;> omega
theorem heat_lo (p : Int → Bool) (u : Nat) : ∀ es : List (Int × Int), 0 ≤ heat p u es ∧ heat p u es ≤ 2 * es.length
  | [] => by simp [heat]
  | e :: l => by
    have h1 := heatE_01 p u e
    have h2 := heat_lo p u l
    simp only [heat, List.length_cons]
    omega
theorem heat_append (p : Int → Bool) (u : Nat) : ∀ a b : List (Int × Int), heat p u (a ++ b) = heat p u a + heat p u b
  | [], b => by simp [heat]
  | e :: a, b => by simp only [List.cons_append, heat, heat_append p u a b]; omega
theorem heat_mono {p r : Int → Bool} (h : ∀ x, p x = true → r x = true) (u : Nat) : ∀ es : List (Int × Int), heat p u es ≤ heat r u es
  | [] => by simp [heat]
  | e :: l => by
    have h1 := ind_01 u e.1
    have h2 := ind_01 u e.2
    have h3 := heat_mono h u l
    have h4 := h e.1
    have h5 := h e.2
    simp only [heat, heatE]
    cases hp1 : p e.1 <;> cases hp2 : p e.2 <;> cases hr1 : r e.1 <;> cases hr2 : r e.2 <;> simp_all <;> omega
theorem heat_congr {p r : Int → Bool} (u : Nat) : ∀ es : List (Int × Int), (∀ e ∈ es, p e.1 = r e.1 ∧ p e.2 = r e.2) → heat p u es = heat r u es
  | [], _ => rfl
  | e :: l, h => by
    have h1 := h e (by simp)
    rw [heat, heat, heat_congr u l (fun x hx => h x (by simp [hx])), heatE, heatE, h1.1, h1.2]
theorem heat_none {p : Int → Bool} (h : ∀ x, p x = false) (u : Nat) : ∀ es : List (Int × Int), heat p u es = 0
  | [] => rfl
  | e :: l => by rw [heat, heat_none h u l, heatE, h, h]; simp
def warm (v : Int) (u : Nat) (e : Int × Int) : Int := if v = e.1 then ind u e.2 else if v = e.2 then ind u e.1 else 0
def warms (v : Int) (u : Nat) : List (Int × Int) → Int
  | [] => 0
  | e :: l => warm v u e + warms v u l
theorem warms_append (v : Int) (u : Nat) : ∀ a b : List (Int × Int), warms v u (a ++ b) = warms v u a + warms v u b
  | [], b => by simp [warms]
  | e :: a, b => by simp only [List.cons_append, warms, warms_append v u a b]; omega
theorem warms_snoc (v : Int) (u : Nat) {es : List (Int × Int)} {k : Nat} {e : Int × Int} (h : es[k]? = some e) : warms v u (es.take (k + 1)) = warms v u (es.take k) + warm v u e := by
  rw [List.take_add_one, h, warms_append]
  simp [warms]
def orP (p : Int → Bool) (v : Int) (x : Int) : Bool := p x || decide (x = v)
theorem heat_light (p : Int → Bool) (v : Int) (hv : p v = false) (u : Nat) : ∀ es : List (Int × Int), (∀ e ∈ es, e.1 < e.2) → heat (orP p v) u es = heat p u es + warms v u es
  | [], _ => rfl
  | e :: l, h => by
    have h1 := h e (by simp)
    have h2 := heat_light p v hv u l (fun x hx => h x (by simp [hx]))
    simp only [heat, warms, h2]
    have : heatE (orP p v) u e = heatE p u e + warm v u e := by
      unfold heatE warm orP
      by_cases e1 : v = e.1
      · subst e1
        have : ¬ e.2 = e.1 := by omega
        simp [hv, this]
      · by_cases e2 : v = e.2
        · subst e2
          have : ¬ e.1 = e.2 := by omega
          simp [hv, this]
          omega
        · have n1 : ¬ e.1 = v := fun h => e1 h.symm
          have n2 : ¬ e.2 = v := fun h => e2 h.symm
          simp [n1, n2, e1, e2]
    omega
def inL (l : List Int) (x : Int) : Bool := decide (x ∈ l)
theorem inL_snoc (l : List Int) (v : Int) : inL (l ++ [v]) = orP (inL l) v := by funext x; simp [inL, orP]
def catchV (es : List (Int × Int)) (d ord : List Int) (v : Nat) : Bool := decide (d.getD v 0 < heat (inL ord) v es) && !inL ord (v : Int)
def nextV (M : Nat) (es : List (Int × Int)) (d ord : List Int) : Option Nat := (List.range M).find? (catchV es d ord)
theorem nextV_none {M : Nat} {es : List (Int × Int)} {d ord : List Int} (h : ∀ v, v < M → catchV es d ord v = false) : nextV M es d ord = none := by
  rw [nextV, List.find?_eq_none]
  intro x hx
  rw [h x (List.mem_range.1 hx)]
  simp
theorem nextV_some {M : Nat} {es : List (Int × Int)} {d ord : List Int} {v : Nat} (hv : v < M) (hc : catchV es d ord v = true) (h : ∀ j, j < v → catchV es d ord j = false) : nextV M es d ord = some v := by
  rw [nextV, List.find?_range_eq_some]
  exact ⟨hc, List.mem_range.2 hv, fun j hj => by rw [h j hj]; rfl⟩
theorem nextV_get {M : Nat} {es : List (Int × Int)} {d ord : List Int} {v : Nat} (h : nextV M es d ord = some v) : v < M ∧ catchV es d ord v = true := by
  have h1 := List.find?_some h
  exact ⟨List.mem_range.1 (List.mem_of_find?_eq_some h), h1⟩
theorem nextV_no {M : Nat} {es : List (Int × Int)} {d ord : List Int} (h : nextV M es d ord = none) (v : Nat) (hv : v < M) : catchV es d ord v = false := by
  rw [nextV, List.find?_eq_none] at h
  simpa using h v (List.mem_range.2 hv)
theorem catchV_iff {es : List (Int × Int)} {d ord : List Int} {v : Nat} : catchV es d ord v = true ↔ d.getD v 0 < heat (inL ord) v es ∧ ¬ (v : Int) ∈ ord := by simp [catchV, inL]
def burnL (M : Nat) (es : List (Int × Int)) (d : List Int) : Nat → List Int → List Int
  | 0, ord => ord
  | k + 1, ord => match nextV M es d ord with
    | none => ord
    | some v => burnL M es d k (ord ++ [(v : Int)])
def burntL (M : Nat) (es : List (Int × Int)) (d : List Int) (q : Int) : List Int := burnL M es d M [q]
theorem burnL_end {M : Nat} {es : List (Int × Int)} {d ord : List Int} (h : nextV M es d ord = none) (k : Nat) : burnL M es d k ord = ord := by
  cases k with
  | zero => rfl
  | succ k => rw [burnL, h]
structure Burns (M : Nat) (q : Int) (ord : List Int) : Prop where
  nodup : ord.Nodup
  bound : ∀ x ∈ ord, 0 ≤ x ∧ x < (M : Int)
  first : q ∈ ord
theorem Burns.start {M : Nat} {q : Int} (h : 0 ≤ q ∧ q < (M : Int)) : Burns M q [q] := ⟨by simp, fun x hx => by simp at hx; subst hx; exact h, by simp⟩
theorem Burns.push {M : Nat} {q : Int} {ord : List Int} {v : Nat} (h : Burns M q ord) (hv : v < M) (hn : ¬ (v : Int) ∈ ord) : Burns M q (ord ++ [(v : Int)]) where
  nodup := by
    rw [List.nodup_append]
    exact ⟨h.nodup, by simp, fun a ha c hc => by simp at hc; subst hc; exact fun he => hn (he ▸ ha)⟩
  bound := fun y hy => by
    rw [List.mem_append] at hy
    rcases hy with g | g
    · exact h.bound y g
    · simp at g; subst g; omega
  first := by simp [h.first]
theorem nodup_lenB : ∀ (l m : List Int), l.Nodup → (∀ x ∈ l, x ∈ m) → l.length ≤ m.length
  | [], m, _, _ => Nat.zero_le _
  | a :: l, m, hd, hs => by
    rw [List.nodup_cons] at hd
    have ha : a ∈ m := hs a (by simp)
    have h1 := nodup_lenB l (m.erase a) hd.2 fun x hx => (List.mem_erase_of_ne (by rintro rfl; exact hd.1 hx)).2 (hs x (by simp [hx]))
    have h2 := List.length_erase_of_mem ha
    have h3 := List.length_pos_of_mem ha
    rw [List.length_cons]
    omega
theorem mem_rangeI {M : Nat} {x : Int} : x ∈ (List.range M).map (Int.ofNat) ↔ 0 ≤ x ∧ x < (M : Int) := by
  simp only [List.mem_map, List.mem_range]
  constructor
  · rintro ⟨i, h, rfl⟩
    simp only [Int.ofNat_eq_natCast]
    omega
  · rintro ⟨h1, h2⟩; exact ⟨x.toNat, by omega, by simp only [Int.ofNat_eq_natCast]; omega⟩
theorem Burns.len {M : Nat} {q : Int} {ord : List Int} (h : Burns M q ord) : ord.length ≤ M := by
  have := nodup_lenB ord ((List.range M).map Int.ofNat) h.nodup fun x hx => mem_rangeI.2 (h.bound x hx)
  simpa using this
theorem Burns.len_lt {M : Nat} {q : Int} {ord : List Int} {v : Nat} (h : Burns M q ord) (hv : v < M) (hn : ¬ (v : Int) ∈ ord) : ord.length < M := by
  have := (h.push hv hn).len
  simp at this
  omega
theorem Burns.full {M : Nat} {q : Int} {ord : List Int} (h : Burns M q ord) (hl : ord.length = M) (v : Nat) (hv : v < M) : (v : Int) ∈ ord := by
  apply Classical.byContradiction
  intro hn
  have := h.len_lt hv hn
  omega
theorem Burns.full_iff {M : Nat} {q : Int} {ord : List Int} (h : Burns M q ord) : ord.length = M ↔ ∀ v : Nat, v < M → (v : Int) ∈ ord := by
  refine ⟨fun hl v hv => h.full hl v hv, fun hv => ?_⟩
  have h1 := nodup_lenB ((List.range M).map Int.ofNat) ord (by
    rw [List.nodup_iff_pairwise_ne, List.pairwise_map]
    exact List.Pairwise.imp (fun {a b} h => by simp only [Int.ofNat_eq_natCast]; omega) (List.nodup_iff_pairwise_ne.1 List.nodup_range)) fun x hx => by
    have := mem_rangeI.1 hx
    have h2 := hv x.toNat (by omega)
    rwa [show ((x.toNat : Nat) : Int) = x by omega] at h2
  have h2 := h.len
  simp at h1
  omega
structure BurnI (M : Nat) (es : List (Int × Int)) (d : List Int) (q : Int) (ord : List Int) : Prop extends Burns M q ord where
  goal : ∃ k, M ≤ k + ord.length ∧ burnL M es d k ord = burntL M es d q
theorem BurnI.start {M : Nat} {es : List (Int × Int)} {d : List Int} {q : Int} (h : 0 ≤ q ∧ q < (M : Int)) : BurnI M es d q [q] := ⟨Burns.start h, M, by simp, rfl⟩
theorem BurnI.push {M : Nat} {es : List (Int × Int)} {d ord : List Int} {q : Int} {v : Nat} (h : BurnI M es d q ord) (hv : nextV M es d ord = some v) : BurnI M es d q (ord ++ [(v : Int)]) := by
  obtain ⟨h1, h2⟩ := nextV_get hv
  obtain ⟨_, h3⟩ := catchV_iff.1 h2
  refine ⟨h.toBurns.push h1 h3, ?_⟩
  obtain ⟨k, hk, hg⟩ := h.goal
  have := h.toBurns.len_lt h1 h3
  cases k with
  | zero => omega
  | succ k =>
    rw [burnL, hv] at hg
    exact ⟨k, by simp; omega, hg⟩
theorem BurnI.done {M : Nat} {es : List (Int × Int)} {d ord : List Int} {q : Int} (h : BurnI M es d q ord) (hv : nextV M es d ord = none) : ord = burntL M es d q := by
  obtain ⟨k, _, hg⟩ := h.goal
  rw [burnL_end hv] at hg
  exact hg
theorem burnL_ind {M : Nat} {es : List (Int × Int)} {d : List Int} {q : Int} {P : List Int → Prop}
    (hs : ∀ ord v, Burns M q ord → P ord → nextV M es d ord = some v → P (ord ++ [(v : Int)])) : ∀ k ord, Burns M q ord → P ord → Burns M q (burnL M es d k ord) ∧ P (burnL M es d k ord) ∧ (M ≤ k + ord.length → nextV M es d (burnL M es d k ord) = none)
  | 0, ord, hb, hp => ⟨hb, hp, fun hk => by
    rw [burnL]
    cases hn : nextV M es d ord with
    | none => rfl
    | some v =>
      obtain ⟨h1, h2⟩ := nextV_get hn
      obtain ⟨_, h3⟩ := catchV_iff.1 h2
      have := hb.len_lt h1 h3
      omega⟩
  | k + 1, ord, hb, hp => by
    rw [burnL]
    cases hn : nextV M es d ord with
    | none => exact ⟨hb, hp, fun _ => hn⟩
    | some v =>
      obtain ⟨h1, h2⟩ := nextV_get hn
      obtain ⟨_, h3⟩ := catchV_iff.1 h2
      obtain ⟨a1, a2, a3⟩ := burnL_ind hs k (ord ++ [(v : Int)]) (hb.push h1 h3) (hs ord v hb hp hn)
      exact ⟨a1, a2, fun hk => a3 (by simp; omega)⟩
theorem burntL_all {M : Nat} {es : List (Int × Int)} {d : List Int} {q : Int} (hq : 0 ≤ q ∧ q < (M : Int)) : Burns M q (burntL M es d q) ∧ nextV M es d (burntL M es d q) = none := by
  obtain ⟨h1, _, h2⟩ := burnL_ind (M := M) (es := es) (d := d) (q := q) (P := fun _ => True) (fun _ _ _ _ _ => trivial) M [q] (Burns.start hq) trivial
  exact ⟨h1, h2 (by simp)⟩
theorem burn_meets {M : Nat} {es : List (Int × Int)} {d : List Int} {q : Int} (hq : 0 ≤ q ∧ q < (M : Int)) (A : Int → Bool) (hA : A q = false) (hm : ∃ x ∈ burntL M es d q, A x = true) :
    ∃ v : Nat, v < M ∧ A (v : Int) = true ∧ d.getD v 0 < heat (fun x => !A x) v es := by
  have h := (burnL_ind (M := M) (es := es) (d := d) (q := q) (P := fun ord => (∃ x ∈ ord, A x = true) → ∃ v : Nat, v < M ∧ A (v : Int) = true ∧ d.getD v 0 < heat (fun x => !A x) v es) (by
    intro ord v _ hp hn ⟨x, hx, hax⟩
    by_cases ho : ∃ y ∈ ord, A y = true
    · exact hp ho
    · obtain ⟨h1, h2⟩ := nextV_get hn
      obtain ⟨h4, h3⟩ := catchV_iff.1 h2
      rw [List.mem_append, List.mem_singleton] at hx
      rcases hx with hx | rfl
      · exact absurd ⟨x, hx, hax⟩ ho
      · refine ⟨v, h1, hax, Int.lt_of_lt_of_le h4 (heat_mono (fun y hy => ?_) v es)⟩
        have hy2 : y ∈ ord := by simpa [inL] using hy
        cases hay : A y with
        | false => rfl
        | true => exact absurd ⟨y, hy2, hay⟩ ho) M [q] (Burns.start hq) (by
    rintro ⟨x, hx, hax⟩
    simp at hx
    subst hx
    rw [hA] at hax
    cases hax)).2.1
  exact h hm
def sparedL (M : Nat) (ord : List Int) : List Int := ((List.range M).filter fun (v : Nat) => !inL ord (v : Int)).map fun (v : Nat) => (v : Int)
end Go.Proofs.Ytdpojcgeblbfeaa

/- Reducing, the plain math: weights, the two phases, and that there is one reduced divisor only. -/
namespace Go.Proofs.Ytdpojcgeblbfeaa
open Go.RowKit

def sumV (f : Nat → Int) : Nat → Int
  | 0 => 0
  | k + 1 => sumV f k + f k
theorem sumV_congr {f g : Nat → Int} : ∀ k, (∀ u, u < k → f u = g u) → sumV f k = sumV g k
  | 0, _ => rfl
  | k + 1, h => by rw [sumV, sumV, sumV_congr k (fun u hu => h u (by omega)), h k (by omega)]
theorem sumV_add (f g : Nat → Int) : ∀ k, sumV (fun u => f u + g u) k = sumV f k + sumV g k
  | 0 => rfl
  | k + 1 => by simp only [sumV, sumV_add f g k]; omega
theorem sumV_mul (c : Int) (f : Nat → Int) : ∀ k, sumV (fun u => c * f u) k = c * sumV f k
  | 0 => by simp [sumV]
  | k + 1 => by simp only [sumV, sumV_mul c f k, Int.mul_add]
theorem sumV_le {f g : Nat → Int} : ∀ k, (∀ u, u < k → f u ≤ g u) → sumV f k ≤ sumV g k
  | 0, _ => Int.le_refl _
  | k + 1, h => by
    have h1 := sumV_le k (fun u hu => h u (by omega))
    have h2 := h k (by omega)
    simp only [sumV]
    omega
theorem sumV_const (c : Int) : ∀ k : Nat, sumV (fun _ => c) k = c * (k : Int)
  | 0 => by simp [sumV]
  | k + 1 => by simp only [sumV, sumV_const c k, Int.natCast_add, Int.mul_add]; simp
theorem sumV_ind (c : Nat → Int) (a : Nat) : ∀ k, sumV (fun u => c u * ind u (a : Int)) k = if a < k then c a else 0
  | 0 => by simp [sumV]
  | k + 1 => by
    rw [sumV, sumV_ind c a k]
    by_cases e : k = a
    · subst e
      have : ind k (k : Int) = 1 := by simp [ind]
      rw [if_neg (by omega), if_pos (by omega), this]
      simp
    · have : ind k (a : Int) = 0 := by unfold ind; rw [if_neg (by omega)]
      have e2 : (a < k + 1) = (a < k) := by apply propext; omega
      rw [this]
      simp only [e2, Int.mul_zero, Int.add_zero]
theorem sumV_addAt (f : Nat → Int) (v : Nat) (t : Int) : ∀ k, sumV (addAt f v t) k = sumV f k + if v < k then t else 0
  | 0 => by simp [sumV]
  | k + 1 => by
    rw [sumV, sumV, sumV_addAt f v t k]
    by_cases e : k = v
    · subst e
      rw [if_neg (by omega), if_pos (by omega), addAt, if_pos rfl]
      omega
    · have e2 : (v < k + 1) = (v < k) := by apply propext; omega
      rw [addAt, if_neg e]
      simp only [e2]
      omega

def termF (f : Nat → Int) (u : Nat) (e : Int × Int) : Int := ind u e.1 * (f e.2.toNat - f e.1.toNat) + ind u e.2 * (f e.1.toNat - f e.2.toNat)
def termsF (f : Nat → Int) (u : Nat) : List (Int × Int) → Int
  | [] => 0
  | e :: l => termF f u e + termsF f u l
theorem termsF_congr {f g : Nat → Int} (u : Nat) : ∀ es : List (Int × Int), (∀ e ∈ es, f e.1.toNat = g e.1.toNat ∧ f e.2.toNat = g e.2.toNat) → termsF f u es = termsF g u es
  | [], _ => rfl
  | e :: l, h => by
    have h1 := h e (by simp)
    rw [termsF, termsF, termsF_congr u l (fun x hx => h x (by simp [hx])), termF, termF, h1.1, h1.2]
theorem termsF_zero {f : Nat → Int} (h : ∀ u, f u = 0) (u : Nat) : ∀ es : List (Int × Int), termsF f u es = 0
  | [] => rfl
  | e :: l => by rw [termsF, termsF_zero h u l, termF, h, h]; simp
theorem termsF_add (f g : Nat → Int) (u : Nat) : ∀ es : List (Int × Int), termsF (fun i => f i + g i) u es = termsF f u es + termsF g u es
  | [] => rfl
  | e :: l => by
    simp only [termsF, termF, termsF_add f g u l, Int.mul_sub, Int.mul_add]
    omega
theorem termsF_addAt (f : Nat → Int) (v : Nat) (t : Int) (u : Nat) : ∀ es : List (Int × Int), (∀ e ∈ es, 0 ≤ e.1 ∧ e.1 < e.2) → termsF (addAt f v t) u es = termsF f u es + t * nets (v : Int) u es
  | [], _ => by simp [termsF, nets]
  | e :: l, h => by
    obtain ⟨h1, h2⟩ := h e (by simp)
    have ih := termsF_addAt f v t u l (fun x hx => h x (by simp [hx]))
    obtain ⟨x, y⟩ := e
    simp only at h1 h2
    obtain ⟨a, rfl⟩ : ∃ a : Nat, x = (a : Int) := ⟨x.toNat, by omega⟩
    obtain ⟨b, rfl⟩ : ∃ b : Nat, y = (b : Int) := ⟨y.toNat, by omega⟩
    have hab : a ≠ b := by omega
    have key : termF (addAt f v t) u ((a : Int), (b : Int)) = termF f u ((a : Int), (b : Int)) + t * net (v : Int) u ((a : Int), (b : Int)) := by
      simp only [termF, net, addAt, Int.toNat_natCast]
      by_cases e1 : v = a
      · subst e1
        rw [if_neg (Ne.symm hab), if_pos rfl, if_pos rfl]
        have q1 := Int.mul_comm t (ind u (v : Int))
        have q2 := Int.mul_comm t (ind u (b : Int))
        simp only [Int.mul_sub, Int.mul_add]
        omega
      · by_cases e2 : v = b
        · subst e2
          rw [if_pos rfl, if_neg (Ne.symm e1), if_neg (by omega), if_pos rfl]
          have q1 := Int.mul_comm t (ind u (v : Int))
          have q2 := Int.mul_comm t (ind u (a : Int))
          simp only [Int.mul_sub, Int.mul_add]
          omega
        · rw [if_neg (Ne.symm e1), if_neg (Ne.symm e2), if_neg (by omega), if_neg (by omega)]
          simp
    rw [termsF, termsF, nets, key, ih, Int.mul_add]
    omega
theorem dual_e (σ f : Nat → Int) {M a b : Nat} (ha : a < M) (hb : b < M) : sumV (fun u => σ u * termF f u ((a : Int), (b : Int))) M = σ a * (f b - f a) + σ b * (f a - f b) := by
  have h1 : ∀ u, σ u * termF f u ((a : Int), (b : Int)) = (σ u * (f b - f a)) * ind u (a : Int) + (σ u * (f a - f b)) * ind u (b : Int) := fun u => by
    simp only [termF, Int.toNat_natCast, Int.mul_add]
    rw [← Int.mul_assoc, Int.mul_assoc (σ u), Int.mul_comm (ind u (a : Int)), ← Int.mul_assoc, Int.mul_comm (ind u (b : Int)), ← Int.mul_assoc]
  rw [sumV_congr M (fun u _ => h1 u), sumV_add, sumV_ind, sumV_ind, if_pos ha, if_pos hb]
theorem dual_p (σ f : Nat → Int) (M : Nat) : ∀ es : List (Int × Int), (∀ e ∈ es, 0 ≤ e.1 ∧ e.1 < e.2 ∧ e.2 < (M : Int)) → sumV (fun u => σ u * termsF f u es) M = sumV (fun u => f u * termsF σ u es) M
  | [], _ => by simp [termsF, sumV_const]
  | e :: l, h => by
    obtain ⟨h1, h2, h3⟩ := h e (by simp)
    have ih := dual_p σ f M l (fun x hx => h x (by simp [hx]))
    obtain ⟨x, y⟩ := e
    simp only at h1 h2 h3
    obtain ⟨a, rfl⟩ : ∃ a : Nat, x = (a : Int) := ⟨x.toNat, by omega⟩
    obtain ⟨b, rfl⟩ : ∃ b : Nat, y = (b : Int) := ⟨y.toNat, by omega⟩
    simp only [termsF, Int.mul_add]
    rw [sumV_add, sumV_add, ih, dual_e σ f (by omega) (by omega), dual_e f σ (by omega) (by omega)]
    have q1 := Int.mul_comm (f a) (σ a)
    have q2 := Int.mul_comm (f a) (σ b)
    have q3 := Int.mul_comm (f b) (σ a)
    have q4 := Int.mul_comm (f b) (σ b)
    simp only [Int.mul_sub]
    omega
theorem nets_self (v : Nat) : ∀ es : List (Int × Int), (∀ e ∈ es, e.1 < e.2) → -(es.length : Int) ≤ nets (v : Int) v es ∧ nets (v : Int) v es ≤ 0
  | [], _ => by simp [nets]
  | e :: l, h => by
    have h1 := h e (by simp)
    have ih := nets_self v l (fun x hx => h x (by simp [hx]))
    have key : -1 ≤ net (v : Int) v e ∧ net (v : Int) v e ≤ 0 := by
      unfold net ind
      repeat' split
      all_goals omega
    simp only [nets, List.length_cons]
    omega
theorem nets_other (v u : Nat) (hu : u ≠ v) : ∀ es : List (Int × Int), 0 ≤ nets (v : Int) u es
  | [] => by simp [nets]
  | e :: l => by
    have ih := nets_other v u hu l
    have key : 0 ≤ net (v : Int) u e := by
      have h1 := ind_01 u e.1
      have h2 := ind_01 u e.2
      unfold net
      split
      · rename_i h
        have : ind u e.1 = 0 := by unfold ind; rw [if_neg (by omega)]
        omega
      · split
        · rename_i h
          have : ind u e.2 = 0 := by unfold ind; rw [if_neg (by omega)]
          omega
        · omega
    simp only [nets]
    omega
theorem heat_pos {p : Int → Bool} {u : Nat} : ∀ {es : List (Int × Int)}, 0 < heat p u es → ∃ e ∈ es, ((u : Int) = e.1 ∧ p e.2 = true) ∨ ((u : Int) = e.2 ∧ p e.1 = true)
  | [], h => by simp [heat] at h
  | e :: l, h => by
    by_cases h1 : 0 < heat p u l
    · obtain ⟨x, hx, h2⟩ := heat_pos h1
      exact ⟨x, by simp [hx], h2⟩
    · refine ⟨e, by simp, ?_⟩
      have h2 := (heat_lo p u l).1
      have h3 : 0 < heatE p u e := by simp only [heat] at h; omega
      unfold heatE ind at h3
      by_cases a1 : (u : Int) = e.1 ∧ p e.2 = true
      · exact .inl a1
      · by_cases a2 : (u : Int) = e.2 ∧ p e.1 = true
        · exact .inr a2
        · exfalso
          revert h3
          by_cases b1 : (u : Int) = e.1 <;> by_cases b2 : (u : Int) = e.2 <;> simp_all
theorem heat_no {p : Int → Bool} {u : Nat} : ∀ {es : List (Int × Int)}, heat p u es ≤ 0 → ∀ e ∈ es, ¬ ((u : Int) = e.1 ∧ p e.2 = true) ∧ ¬ ((u : Int) = e.2 ∧ p e.1 = true)
  | [], _, e, he => by simp at he
  | e :: l, h, x, hx => by
    have h1 := (heat_lo p u l).1
    have h2 := (heatE_01 p u e).1
    simp only [heat] at h
    rw [List.mem_cons] at hx
    rcases hx with rfl | hx
    · have h3 : heatE p u x ≤ 0 := by omega
      unfold heatE ind at h3
      refine ⟨fun ⟨g1, g2⟩ => ?_, fun ⟨g1, g2⟩ => ?_⟩
      · rw [if_pos g2, if_pos g1] at h3
        revert h3
        split <;> (try split) <;> omega
      · rw [if_pos g2, if_pos g1] at h3
        revert h3
        split <;> (try split) <;> omega
    · exact heat_no (by omega) x hx

def Cut (M : Nat) (es : List (Int × Int)) : Prop := ∀ p : Int → Bool, (∃ x, 0 ≤ x ∧ x < (M : Int) ∧ p x = true) → (∃ x, 0 ≤ x ∧ x < (M : Int) ∧ p x = false) → ∃ e ∈ es, p e.1 ≠ p e.2
theorem Cut.all {M : Nat} {es : List (Int × Int)} (hc : Cut M es) (hes : ∀ e ∈ es, 0 ≤ e.1 ∧ e.1 < e.2 ∧ e.2 < (M : Int)) {q : Int} {ord : List Int} (hb : Burns M q ord) (h : ∀ v : Nat, v < M → ¬ (v : Int) ∈ ord → heat (inL ord) v es ≤ 0) (v : Nat) (hv : v < M) : (v : Int) ∈ ord := by
  apply Classical.byContradiction
  intro hn
  have hq := hb.bound q hb.first
  obtain ⟨e, he, hne⟩ := hc (inL ord) ⟨q, hq.1, hq.2, by simp [inL, hb.first]⟩ ⟨(v : Int), by omega, by omega, by simp [inL, hn]⟩
  obtain ⟨h1, h2, h3⟩ := hes e he
  cases p1 : inL ord e.1 with
  | true =>
    have p2 : inL ord e.2 = false := by rw [p1] at hne; cases h : inL ord e.2 <;> simp_all
    have := (heat_no (h e.2.toNat (by omega) (by rw [show ((e.2.toNat : Nat) : Int) = e.2 by omega]; simpa [inL] using p2)) e he).2
    exact this ⟨by omega, p1⟩
  | false =>
    have p2 : inL ord e.2 = true := by rw [p1] at hne; cases h : inL ord e.2 <;> simp_all
    have := (heat_no (h e.1.toNat (by omega) (by rw [show ((e.1.toNat : Nat) : Int) = e.1 by omega]; simpa [inL] using p1)) e he).1
    exact this ⟨by omega, p2⟩

def idx (x : Int) : List Int → Nat
  | [] => 0
  | y :: l => if y = x then 0 else idx x l + 1
theorem idx_at {x : Int} : ∀ {l : List Int}, x ∈ l → l[idx x l]? = some x
  | [], h => by simp at h
  | y :: l, h => by
    rw [idx]
    by_cases e : y = x
    · rw [if_pos e, e]; rfl
    · rw [if_neg e, List.getElem?_cons_succ]
      rw [List.mem_cons] at h
      exact idx_at (h.resolve_left fun g => e g.symm)
theorem idx_le {x : Int} : ∀ {l : List Int} {j : Nat}, l[j]? = some x → idx x l ≤ j
  | [], j, h => by simp at h
  | y :: l, 0, h => by simp at h; rw [idx, if_pos h]; exact Nat.le_refl _
  | y :: l, j + 1, h => by
    rw [List.getElem?_cons_succ] at h
    have := idx_le h
    rw [idx]
    split <;> omega
def wW : Nat → Int
  | 0 => 0 | 1 => 6220800 | 2 => 6739200 | 3 => 6782400 | 4 => 6786000 | _ => 6786300
theorem wW_succ : ∀ i : Nat, wW i ≤ wW (i + 1)
  | 0 => by decide
  | 1 => by decide
  | 2 => by decide
  | 3 => by decide
  | 4 => by decide
  | _ + 5 => Int.le_refl _
theorem wW_mono (i j : Nat) (h : i ≤ j) : wW i ≤ wW j := by
  induction j with
  | zero => rw [show i = 0 by omega]; exact Int.le_refl _
  | succ j ih =>
    rcases Nat.lt_or_ge j i with g | g
    · rw [show i = j + 1 by omega]; exact Int.le_refl _
    · exact Int.le_trans (ih g) (wW_succ j)
theorem wW_lo (i : Nat) : 0 ≤ wW i ∧ wW i ≤ 6786300 := by unfold wW; split <;> omega
theorem wW_step (i : Nat) (h0 : 0 < i) (h5 : i ≤ 5) : 11 * (6786300 - wW i) + (wW (i - 1) - wW i) ≤ -300 := by
  have : i = 1 ∨ i = 2 ∨ i = 3 ∨ i = 4 ∨ i = 5 := by omega
  rcases this with rfl | rfl | rfl | rfl | rfl <;> simp [wW]
structure Wt (M : Nat) (es : List (Int × Int)) (q : Nat) (σ : Nat → Int) : Prop where
  zero : σ q = 0
  lo : ∀ u, 0 ≤ σ u ∧ σ u ≤ 6786300
  drop : ∀ u, u < M → u ≠ q → termsF σ u es ≤ -300
theorem termsF_cap {σ : Nat → Int} {u : Nat} {c : Int} : ∀ es : List (Int × Int), (∀ e ∈ es, termF σ u e ≤ c) → termsF σ u es ≤ c * (es.length : Int)
  | [], _ => by simp [termsF]
  | e :: l, h => by
    have h1 := h e (by simp)
    have ih := termsF_cap l (fun x hx => h x (by simp [hx]))
    simp only [termsF, List.length_cons, Int.natCast_add, Int.mul_add]
    simp only [Int.natCast_one, Int.mul_one]
    omega
theorem termsF_cap2 {σ : Nat → Int} {u : Nat} {c b : Int} (hc : 0 ≤ c) : ∀ es : List (Int × Int), (∀ e ∈ es, termF σ u e ≤ c) → (∃ e ∈ es, termF σ u e ≤ b) → termsF σ u es ≤ c * ((es.length : Int) - 1) + b
  | [], _, ⟨e, he, _⟩ => by simp at he
  | e :: l, h, ⟨x, hx, hb⟩ => by
    have h1 := h e (by simp)
    have hl := termsF_cap l (fun x hx => h x (by simp [hx]))
    rw [List.mem_cons] at hx
    simp only [termsF, List.length_cons, Int.natCast_add, Int.mul_sub, Int.mul_add, Int.natCast_one, Int.mul_one]
    rcases hx with rfl | hx
    · omega
    · have ih := termsF_cap2 hc l (fun x hx => h x (by simp [hx])) ⟨x, hx, hb⟩
      rw [Int.mul_sub, Int.mul_one] at ih
      omega
theorem wt_exists {M : Nat} {es : List (Int × Int)} {q : Nat} (hM : M ≤ 6) (hn : es.length ≤ 12) (hq : q < M) (hes : ∀ e ∈ es, 0 ≤ e.1 ∧ e.1 < e.2 ∧ e.2 < (M : Int)) (hc : Cut M es) : ∃ σ, Wt M es q σ := by
  have hq2 : 0 ≤ (q : Int) ∧ (q : Int) < (M : Int) := by omega
  obtain ⟨hB, hO, hN⟩ := burnL_ind (M := M) (es := es) (d := []) (q := (q : Int)) (P := fun ord => ord[0]? = some (q : Int) ∧ ∀ (i : Nat) (x : Int), ord[i]? = some x → 0 < i → ∃ (j : Nat) (y : Int), j < i ∧ ord[j]? = some y ∧ ∃ e ∈ es, (x = e.1 ∧ y = e.2) ∨ (x = e.2 ∧ y = e.1)) (by
    rintro ord v hb ⟨h0, hp⟩ hn
    have hlen : 0 < ord.length := (List.getElem?_eq_some_iff.1 h0).1
    refine ⟨by rw [List.getElem?_append_left hlen]; exact h0, fun i x hx hi => ?_⟩
    rcases Nat.lt_or_ge i ord.length with g | g
    · rw [List.getElem?_append_left g] at hx
      obtain ⟨j, y, hj, hy, he⟩ := hp i x hx hi
      exact ⟨j, y, hj, by rw [List.getElem?_append_left (by omega)]; exact hy, he⟩
    · rw [List.getElem?_append_right g] at hx
      have hi2 : i - ord.length = 0 := by
        have := (List.getElem?_eq_some_iff.1 hx).1
        simp at this
        omega
      rw [hi2] at hx
      simp at hx
      subst hx
      obtain ⟨h1, h2⟩ := nextV_get hn
      obtain ⟨h4, h3⟩ := catchV_iff.1 h2
      obtain ⟨e, he, h5⟩ := heat_pos (p := inL ord) (u := v) (es := es) (by simpa using h4)
      rcases h5 with ⟨g1, g2⟩ | ⟨g1, g2⟩
      · obtain ⟨j, hj⟩ := List.getElem?_of_mem (show e.2 ∈ ord by simpa [inL] using g2)
        have hjl := (List.getElem?_eq_some_iff.1 hj).1
        exact ⟨j, e.2, by omega, by rw [List.getElem?_append_left hjl]; exact hj, e, he, .inl ⟨g1, rfl⟩⟩
      · obtain ⟨j, hj⟩ := List.getElem?_of_mem (show e.1 ∈ ord by simpa [inL] using g2)
        have hjl := (List.getElem?_eq_some_iff.1 hj).1
        exact ⟨j, e.1, by omega, by rw [List.getElem?_append_left hjl]; exact hj, e, he, .inr ⟨g1, rfl⟩⟩) M [(q : Int)] (Burns.start hq2) ⟨rfl, fun i x hx hi => by
      have := (List.getElem?_eq_some_iff.1 hx).1
      simp at this
      omega⟩
  obtain ⟨ord, hord⟩ : ∃ o, o = burnL M es [] M [(q : Int)] := ⟨_, rfl⟩
  rw [← hord] at hB hO hN
  have hend := hN (by simp)
  have hall := hc.all hes hB fun v hv hnv => by
    have := nextV_no hend v hv
    simp only [catchV, Bool.and_eq_false_iff, decide_eq_false_iff_not, Bool.not_eq_false'] at this
    rcases this with g | g
    · simp at g
      exact g
    · exact absurd (by simpa [inL] using g) hnv
  have hlen := hB.len
  refine ⟨fun u => wW (idx (u : Int) ord), ?_, fun u => wW_lo _, fun u hu huq => ?_⟩
  · have := idx_le hO.1
    show wW (idx (q : Int) ord) = 0
    rw [show idx (q : Int) ord = 0 by omega]
    rfl
  · have hiu := idx_at (hall u hu)
    obtain ⟨i, hi⟩ : ∃ i, i = idx (u : Int) ord := ⟨_, rfl⟩
    rw [← hi] at hiu
    have hi5 := (List.getElem?_eq_some_iff.1 hiu).1
    have hi0 : 0 < i := by
      rcases Nat.eq_zero_or_pos i with g | g
      · rw [g, hO.1] at hiu
        injection hiu with h
        omega
      · exact g
    obtain ⟨j, y, hj, hy, e, he, hey⟩ := hO.2 i _ hiu hi0
    have hiy := idx_le hy
    have hcap : ∀ e ∈ es, termF (fun u => wW (idx (u : Int) ord)) u e ≤ 6786300 - wW i := by
      intro e he
      obtain ⟨h1, h2, h3⟩ := hes e he
      have w1 := wW_lo (idx e.1 ord)
      have w2 := wW_lo (idx e.2 ord)
      have w3 := wW_lo i
      simp only [termF, show ((e.1.toNat : Nat) : Int) = e.1 by omega, show ((e.2.toNat : Nat) : Int) = e.2 by omega]
      unfold ind
      by_cases g1 : (u : Int) = e.1
      · rw [if_pos g1, if_neg (by omega), ← g1, ← hi]
        omega
      · rw [if_neg g1]
        by_cases g2 : (u : Int) = e.2
        · rw [if_pos g2, ← g2, ← hi]
          omega
        · rw [if_neg g2]
          omega
    have hone : termF (fun u => wW (idx (u : Int) ord)) u e ≤ wW (i - 1) - wW i := by
      obtain ⟨h1, h2, h3⟩ := hes e he
      simp only [termF, show ((e.1.toNat : Nat) : Int) = e.1 by omega, show ((e.2.toNat : Nat) : Int) = e.2 by omega]
      unfold ind
      have hmy := wW_mono (idx y ord) (i - 1) (by omega)
      rcases hey with ⟨g1, g2⟩ | ⟨g1, g2⟩
      · rw [if_pos g1, if_neg (by omega), ← g1, ← hi, ← g2]
        omega
      · rw [if_neg (by omega), if_pos g1, ← g1, ← hi, ← g2]
        omega
    have h1 := termsF_cap2 (by have := wW_lo i; omega) es hcap ⟨e, he, hone⟩
    have h2 := wW_step i hi0 (by omega)
    have h3 : (6786300 - wW i) * ((es.length : Int) - 1) ≤ (6786300 - wW i) * 11 := Int.mul_le_mul_of_nonneg_left (by omega) (by have := wW_lo i; omega)
    omega
end Go.Proofs.Ytdpojcgeblbfeaa

/- Reducing, the plain math: the two phases stay bounded, and there is one reduced divisor only. -/
namespace Go.Proofs.Ytdpojcgeblbfeaa
open Go.RowKit

def Dv (d : List Int) (es : List (Int × Int)) (f : Nat → Int) (u : Nat) : Int := d.getD u 0 + termsF f u es
theorem Dv_addAt (d : List Int) {es : List (Int × Int)} (f : Nat → Int) (v : Nat) (t : Int) (u : Nat) (h : ∀ e ∈ es, 0 ≤ e.1 ∧ e.1 < e.2) : Dv d es (addAt f v t) u = Dv d es f u + t * nets (v : Int) u es := by
  rw [Dv, Dv, termsF_addAt f v t u es h]
  omega
theorem termsF_bound {f : Nat → Int} {K : Int} (u M : Nat) (hK : ∀ v, v < M → -K ≤ f v ∧ f v ≤ K) : ∀ es : List (Int × Int), (∀ e ∈ es, 0 ≤ e.1 ∧ e.1 < e.2 ∧ e.2 < (M : Int)) → -(2 * K * es.length) ≤ termsF f u es ∧ termsF f u es ≤ 2 * K * es.length
  | [], _ => by simp [termsF]
  | e :: l, h => by
    obtain ⟨h1, h2, h3⟩ := h e (by simp)
    have ih := termsF_bound u M hK l (fun x hx => h x (by simp [hx]))
    have b1 := hK e.1.toNat (by omega)
    have b2 := hK e.2.toNat (by omega)
    have key : -(2 * K) ≤ termF f u e ∧ termF f u e ≤ 2 * K := by
      unfold termF ind
      by_cases g1 : (u : Int) = e.1
      · rw [if_pos g1, if_neg (by omega)]; omega
      · by_cases g2 : (u : Int) = e.2
        · rw [if_neg g1, if_pos g2]; omega
        · rw [if_neg g1, if_neg g2]; omega
    simp only [termsF, List.length_cons, Int.natCast_add, Int.mul_add, Int.natCast_one, Int.mul_one]
    omega
theorem Dv_bound {d : List Int} {es : List (Int × Int)} {f : Nat → Int} {M : Nat} (hn : es.length ≤ 12) (hd : ∀ u, -1000000 ≤ d.getD u 0 ∧ d.getD u 0 ≤ 1000000) (hes : ∀ e ∈ es, 0 ≤ e.1 ∧ e.1 < e.2 ∧ e.2 < (M : Int)) (hf : ∀ v, v < M → -1000000000 ≤ f v ∧ f v ≤ 1000000000) (u : Nat) : -1000000000000 ≤ Dv d es f u ∧ Dv d es f u ≤ 1000000000000 := by
  have h1 := termsF_bound u M hf es hes
  have h2 := hd u
  unfold Dv
  omega

structure Ph1 (M : Nat) (es : List (Int × Int)) (d : List Int) (q : Nat) (f : Nat → Int) : Prop where
  zero : f q = 0
  neg : ∀ u, u < M → f u ≤ 0
  cap : ∀ u, u < M → u ≠ q → Dv d es f u ≤ 300
section
variable {M : Nat} {es : List (Int × Int)} {d : List Int} {q : Nat} {f g : Nat → Int} {σ : Nat → Int}
theorem Ph1.start (hd : ∀ u, -300 ≤ d.getD u 0 ∧ d.getD u 0 ≤ 300) : Ph1 M es d q (fun _ => 0) := ⟨rfl, fun _ _ => Int.le_refl _, fun u _ _ => by rw [Dv, termsF_zero (fun _ => rfl)]; have := hd u; omega⟩
theorem Ph1.step (h : Ph1 M es d q f) (hes : ∀ e ∈ es, 0 ≤ e.1 ∧ e.1 < e.2 ∧ e.2 < (M : Int)) {v : Nat} {k : Int} (hv : v ≠ q) (hk : 0 ≤ k) (hc : Dv d es f v + k * -nets (v : Int) v es ≤ 300) : Ph1 M es d q (addAt f v (-k)) where
  zero := by rw [addAt, if_neg (Ne.symm hv)]; exact h.zero
  neg := fun u hu => by
    have := h.neg u hu
    unfold addAt
    split <;> omega
  cap := fun u hu huq => by
    rw [Dv_addAt d f v (-k) u (fun e he => ⟨(hes e he).1, (hes e he).2.1⟩)]
    by_cases e : u = v
    · subst e
      rw [Int.neg_mul]
      rw [Int.mul_neg] at hc
      omega
    · have h1 := nets_other v u e es
      have h2 := h.cap u hu huq
      have h3 : 0 ≤ k * nets (v : Int) u es := Int.mul_nonneg hk h1
      rw [Int.neg_mul]
      omega
theorem pot_eq (hes : ∀ e ∈ es, 0 ≤ e.1 ∧ e.1 < e.2 ∧ e.2 < (M : Int)) (d : List Int) (f σ : Nat → Int) : sumV (fun u => σ u * Dv d es f u) M = sumV (fun u => σ u * d.getD u 0) M + sumV (fun u => f u * termsF σ u es) M := by
  rw [← dual_p σ f M es hes, ← sumV_add]
  exact sumV_congr M fun u _ => by rw [Dv, Int.mul_add]
theorem wt_sum (hw : Wt M es q σ) (hM : M ≤ 6) : 0 ≤ sumV σ M ∧ sumV σ M ≤ 40717800 := by
  have h1 := sumV_le M (f := fun _ => 0) (g := σ) (fun u _ => (hw.lo u).1)
  have h2 := sumV_le M (f := σ) (g := fun _ => 6786300) (fun u _ => (hw.lo u).2)
  rw [sumV_const] at h1 h2
  omega
theorem wt_dlo (hw : Wt M es q σ) (hd : ∀ u, -300 ≤ d.getD u 0 ∧ d.getD u 0 ≤ 300) : -300 * sumV σ M ≤ sumV (fun u => σ u * d.getD u 0) M := by
  rw [← sumV_mul]
  refine sumV_le M fun u _ => ?_
  have := Int.mul_le_mul_of_nonneg_left (hd u).1 (hw.lo u).1
  rw [Int.mul_comm]
  exact this
theorem Ph1.pot (h : Ph1 M es d q f) (hw : Wt M es q σ) : sumV (fun u => σ u * Dv d es f u) M ≤ 300 * sumV σ M := by
  rw [← sumV_mul]
  refine sumV_le M fun u hu => ?_
  by_cases e : u = q
  · rw [e, hw.zero]; simp
  · have := Int.mul_le_mul_of_nonneg_left (h.cap u hu e) (hw.lo u).1
    rw [Int.mul_comm 300]
    exact this
theorem Ph1.sum (h : Ph1 M es d q f) (hw : Wt M es q σ) (hM : M ≤ 6) (hes : ∀ e ∈ es, 0 ≤ e.1 ∧ e.1 < e.2 ∧ e.2 < (M : Int)) (hd : ∀ u, -300 ≤ d.getD u 0 ∧ d.getD u 0 ≤ 300) : -81435600 ≤ sumV f M := by
  have h1 := h.pot hw
  rw [pot_eq hes] at h1
  have h2 := wt_dlo hw hd
  have h3 := wt_sum hw hM
  have h4 : -300 * sumV f M ≤ sumV (fun u => f u * termsF σ u es) M := by
    rw [← sumV_mul]
    refine sumV_le M fun u hu => ?_
    by_cases e : u = q
    · rw [e, h.zero]; simp
    · have := Int.mul_le_mul_of_nonpos_left (h.neg u hu) (hw.drop u hu e)
      rw [Int.mul_comm]
      exact this
  omega
theorem sum_part (hf : ∀ u, u < M → f u ≤ 0) {v : Nat} (hv : v < M) : sumV f M ≤ f v := by
  have h1 := sumV_le M (f := f) (g := fun u => f v * ind u (v : Int)) (fun u hu => by
    have := hf u hu
    unfold ind
    split
    · rename_i e
      rw [show u = v by omega]; simp
    · simp; exact this)
  rw [show (fun u => f v * ind u (v : Int)) = (fun u => (fun _ => f v) u * ind u (v : Int)) from rfl, sumV_ind, if_pos hv] at h1
  exact h1
theorem Ph1.low (h : Ph1 M es d q f) (hw : Wt M es q σ) (hM : M ≤ 6) (hes : ∀ e ∈ es, 0 ≤ e.1 ∧ e.1 < e.2 ∧ e.2 < (M : Int)) (hd : ∀ u, -300 ≤ d.getD u 0 ∧ d.getD u 0 ≤ 300) (u : Nat) (hu : u < M) : -81435600 ≤ f u ∧ f u ≤ 0 :=
  ⟨Int.le_trans (h.sum hw hM hes hd) (sum_part h.neg hu), h.neg u hu⟩

structure Ph2 (M : Nat) (es : List (Int × Int)) (d : List Int) (q : Nat) (σ f : Nat → Int) : Prop where
  zero : f q = 0
  low : ∀ u, u < M → -81435600 ≤ f u
  pos : ∀ u, u < M → u ≠ q → 0 ≤ Dv d es f u
  pot : sumV (fun u => σ u * d.getD u 0) M + sumV (fun u => f u * (termsF σ u es + 300)) M ≤ 300 * sumV σ M
theorem Ph1.end_ (h : Ph1 M es d q f) (hw : Wt M es q σ) (hM : M ≤ 6) (hes : ∀ e ∈ es, 0 ≤ e.1 ∧ e.1 < e.2 ∧ e.2 < (M : Int)) (hd : ∀ u, -300 ≤ d.getD u 0 ∧ d.getD u 0 ≤ 300) (hp : ∀ u, u < M → u ≠ q → 0 ≤ Dv d es f u) : Ph2 M es d q σ f where
  zero := h.zero
  low := fun u hu => (h.low hw hM hes hd u hu).1
  pos := hp
  pot := by
    have h1 := h.pot hw
    rw [pot_eq hes] at h1
    have h2 : sumV (fun u => f u * (termsF σ u es + 300)) M ≤ sumV (fun u => f u * termsF σ u es) M := sumV_le M fun u hu => by
      have := h.neg u hu
      rw [Int.mul_add]
      omega
    omega
theorem Ph2.step (h : Ph2 M es d q σ f) (hw : Wt M es q σ) (hz : g q = 0) (hm : ∀ u, u < M → f u ≤ g u) (hp : ∀ u, u < M → u ≠ q → 0 ≤ Dv d es g u) : Ph2 M es d q σ g where
  zero := hz
  low := fun u hu => Int.le_trans (h.low u hu) (hm u hu)
  pos := hp
  pot := by
    have h1 := h.pot
    have h2 : sumV (fun u => g u * (termsF σ u es + 300)) M ≤ sumV (fun u => f u * (termsF σ u es + 300)) M := sumV_le M fun u hu => by
      by_cases e : u = q
      · rw [e, hz, h.zero]; exact Int.le_refl _
      · exact Int.mul_le_mul_of_nonpos_right (hm u hu) (by have := hw.drop u hu e; omega)
    omega
theorem Ph2.sum (h : Ph2 M es d q σ f) (hw : Wt M es q σ) (hM : M ≤ 6) (hes : ∀ e ∈ es, 0 ≤ e.1 ∧ e.1 < e.2 ∧ e.2 < (M : Int)) : sumV f M ≤ 40717800 := by
  have h1 := h.pot
  have h2 : sumV (fun u => f u * (termsF σ u es + 300)) M = sumV (fun u => f u * termsF σ u es) M + 300 * sumV f M := by
    rw [← sumV_mul, ← sumV_add]
    exact sumV_congr M fun u _ => by rw [Int.mul_add, Int.mul_comm (f u) 300]
  have h3 : 0 ≤ sumV (fun u => σ u * Dv d es f u) M := by
    have := sumV_le M (f := fun _ => 0) (g := fun u => σ u * Dv d es f u) (fun u hu => by
      by_cases e : u = q
      · rw [e, hw.zero]; simp
      · exact Int.mul_nonneg (hw.lo u).1 (h.pos u hu e))
    rw [sumV_const] at this
    omega
  rw [pot_eq hes] at h3
  have h4 := wt_sum hw hM
  omega
theorem Ph2.high (h : Ph2 M es d q σ f) (hw : Wt M es q σ) (hM : M ≤ 6) (hes : ∀ e ∈ es, 0 ≤ e.1 ∧ e.1 < e.2 ∧ e.2 < (M : Int)) (u : Nat) (hu : u < M) : -1000000000 ≤ f u ∧ f u ≤ 1000000000 := by
  have h1 := h.low u hu
  have h2 := h.sum hw hM hes
  refine ⟨by omega, ?_⟩
  have h3 := sum_part (M := M) (f := fun v => -81435600 - f v) (fun v hv => by have := h.low v hv; omega) hu
  have h4 : sumV (fun v => -81435600 - f v) M = -81435600 * (M : Int) - sumV f M := by
    have e1 := sumV_add (fun _ => (-81435600 : Int)) (fun v => -1 * f v) M
    rw [sumV_const, sumV_mul] at e1
    rw [show (fun v => -81435600 - f v) = (fun v => -81435600 + -1 * f v) from by funext v; omega, e1]
    omega
  have h5 := sum_part (M := M) (f := fun v => -81435600 - f v) (fun v hv => by have := h.low v hv; omega) hu
  -- the others are at least the lowest
  have h6 : sumV (fun v => -81435600 * (1 - ind v (u : Int)) + f u * ind v (u : Int)) M ≤ sumV f M := sumV_le M fun v hv => by
    have := h.low v hv
    unfold ind
    split
    · rename_i e
      rw [show v = u by omega]; omega
    · omega
  have h7 : sumV (fun v => -81435600 * (1 - ind v (u : Int)) + f u * ind v (u : Int)) M = -81435600 * (M : Int) + (81435600 + f u) := by
    have e1 := sumV_add (fun _ => (-81435600 : Int)) (fun v => (81435600 + f u) * ind v (u : Int)) M
    rw [sumV_const, show (fun v => (81435600 + f u) * ind v (u : Int)) = (fun v => (fun _ => 81435600 + f u) v * ind v (u : Int)) from rfl, sumV_ind, if_pos hu] at e1
    rw [← e1]
    refine sumV_congr M fun v _ => ?_
    unfold ind
    split <;> omega
  omega

structure IsRed (M : Nat) (es : List (Int × Int)) (d : List Int) (q : Nat) (f : Nat → Int) : Prop where
  zero : f q = 0
  bound : ∀ u, u < M → -1000000000 ≤ f u ∧ f u ≤ 1000000000
  pos : ∀ u, u < M → u ≠ q → 0 ≤ Dv d es f u
  all : (burntL M es (chipsOf M (Dv d es f)) (q : Int)).length = M
theorem chips_get {M : Nat} {f : Nat → Int} {u : Nat} (hu : u < M) (h : -1000000000000 ≤ f u ∧ f u ≤ 1000000000000) : (chipsOf M f).getD u 0 = f u := by
  simp only [List.getD, chipsOf_at f hu, Option.getD_some]
  exact wrap64_of (by omega) (by omega)
theorem maxV (t : Nat → Int) : ∀ M : Nat, 0 < M → ∃ u, u < M ∧ ∀ v, v < M → t v ≤ t u
  | 0, h => by omega
  | 1, _ => ⟨0, by omega, fun v hv => by rw [show v = 0 by omega]; exact Int.le_refl _⟩
  | M + 2, _ => by
    obtain ⟨u, hu, h⟩ := maxV t (M + 1) (by omega)
    by_cases e : t u ≤ t (M + 1)
    · refine ⟨M + 1, by omega, fun v hv => ?_⟩
      by_cases e2 : v = M + 1
      · rw [e2]; exact Int.le_refl _
      · exact Int.le_trans (h v (by omega)) e
    · refine ⟨u, by omega, fun v hv => ?_⟩
      by_cases e2 : v = M + 1
      · rw [e2]; omega
      · exact h v (by omega)
theorem top_fire {t : Nat → Int} {m : Int} (M : Nat) (ht : ∀ v, v < M → t v ≤ m) {v : Nat} (hv : t v = m) : ∀ es : List (Int × Int), (∀ e ∈ es, 0 ≤ e.1 ∧ e.1 < e.2 ∧ e.2 < (M : Int)) → termsF t v es ≤ -heat (fun x => !decide (t x.toNat = m)) v es
  | [], _ => by simp [termsF, heat]
  | e :: l, h => by
    obtain ⟨h1, h2, h3⟩ := h e (by simp)
    have ih := top_fire M ht hv l (fun x hx => h x (by simp [hx]))
    have b1 := ht e.1.toNat (by omega)
    have b2 := ht e.2.toNat (by omega)
    have key : termF t v e ≤ -heatE (fun x => !decide (t x.toNat = m)) v e := by
      unfold termF heatE ind
      by_cases g1 : (v : Int) = e.1
      · have e1 : e.1.toNat = v := by omega
        rw [if_pos g1, if_neg (by omega), e1, hv]
        by_cases g3 : t e.2.toNat = m <;> simp [g3] <;> omega
      · by_cases g2 : (v : Int) = e.2
        · have e1 : e.2.toNat = v := by omega
          rw [if_neg g1, if_pos g2, e1, hv]
          by_cases g3 : t e.1.toNat = m <;> simp [g3] <;> omega
        · rw [if_neg g1, if_neg g2]; simp
    simp only [termsF, heat]
    omega
theorem IsRed.le (hf : IsRed M es d q f) (hg : IsRed M es d q g) (hq : q < M) (hn : es.length ≤ 12) (hd : ∀ u, -1000000 ≤ d.getD u 0 ∧ d.getD u 0 ≤ 1000000) (hes : ∀ e ∈ es, 0 ≤ e.1 ∧ e.1 < e.2 ∧ e.2 < (M : Int)) : ∀ u, u < M → f u ≤ g u := by
  obtain ⟨a, ha, hmax⟩ := maxV (fun u => f u + -1 * g u) M (by omega)
  obtain ⟨m, hm⟩ : ∃ m, m = f a + -1 * g a := ⟨_, rfl⟩
  by_cases hm0 : m ≤ 0
  · intro u hu
    have := hmax u hu
    omega
  exfalso
  have hq2 : 0 ≤ (q : Int) ∧ (q : Int) < (M : Int) := by omega
  have hb := (burntL_all (es := es) (d := chipsOf M (Dv d es g)) hq2).1.full hg.all
  obtain ⟨v, hv, hA, hlt⟩ := burn_meets (d := chipsOf M (Dv d es g)) (es := es) hq2 (fun x => decide (f x.toNat + -1 * g x.toNat = m)) (by
    simp only [Int.toNat_natCast, hf.zero, hg.zero, decide_eq_false_iff_not]
    omega) ⟨(a : Int), hb a ha, by simp [hm]⟩
  simp only [Int.toNat_natCast, decide_eq_true_eq] at hA
  rw [chips_get hv (Dv_bound hn hd hes hg.bound v)] at hlt
  have h1 := top_fire (t := fun u => f u + -1 * g u) (m := m) M (fun w hw => by rw [hm]; exact hmax w hw) (v := v) hA es hes
  have h2 : termsF (fun u => f u + -1 * g u) v es = termsF f v es - termsF g v es := by
    have e1 := termsF_add (fun u => f u + -1 * g u) g v es
    rw [show (fun i => f i + -1 * g i + g i) = f from by funext i; omega] at e1
    omega
  have hvq : v ≠ q := by
    rintro rfl
    rw [hf.zero, hg.zero] at hA
    omega
  have h3 := hf.pos v hv hvq
  simp only [Dv] at h3 hlt
  omega
theorem IsRed.same (hf : IsRed M es d q f) (hg : IsRed M es d q g) (hq : q < M) (hn : es.length ≤ 12) (hd : ∀ u, -1000000 ≤ d.getD u 0 ∧ d.getD u 0 ≤ 1000000) (hes : ∀ e ∈ es, 0 ≤ e.1 ∧ e.1 < e.2 ∧ e.2 < (M : Int)) (u : Nat) (hu : u < M) : f u = g u :=
  Int.le_antisymm (hf.le hg hq hn hd hes u hu) (hg.le hf hq hn hd hes u hu)
open Classical in
/-- the reducing script -/
noncomputable def redF (M : Nat) (es : List (Int × Int)) (d : List Int) (q : Nat) : Nat → Int := if h : ∃ f, IsRed M es d q f then Classical.choose h else fun _ => 0
theorem redF_is (h : IsRed M es d q f) : IsRed M es d q (redF M es d q) := by
  have hx : ∃ f, IsRed M es d q f := ⟨f, h⟩
  rw [redF, dif_pos hx]
  exact Classical.choose_spec hx
def addSet (f : Nat → Int) (U : Int → Bool) (t : Int) (u : Nat) : Int := if U (u : Int) = true then f u + t else f u
theorem addSet_in (f : Nat → Int) (U : Int → Bool) (t : Int) {v : Nat} (hv : U (v : Int) = true) : ∀ es : List (Int × Int), (∀ e ∈ es, 0 ≤ e.1 ∧ e.1 < e.2) → termsF (addSet f U t) v es = termsF f v es - t * heat (fun x => !U x) v es
  | [], _ => by simp [termsF, heat]
  | e :: l, h => by
    obtain ⟨h1, h2⟩ := h e (by simp)
    have ih := addSet_in f U t hv l (fun x hx => h x (by simp [hx]))
    have key : termF (addSet f U t) v e = termF f v e - t * heatE (fun x => !U x) v e := by
      unfold termF heatE ind addSet
      by_cases g1 : (v : Int) = e.1
      · have e1 : e.1.toNat = v := by omega
        have e3 : ((e.2.toNat : Nat) : Int) = e.2 := by omega
        have n2 : ¬ (v : Int) = e.2 := by omega
        rw [if_pos g1, if_neg n2, e1, if_pos hv, e3]
        by_cases g3 : U e.2 = true
        · simp [g3]; omega
        · simp [g3]; omega
      · by_cases g2 : (v : Int) = e.2
        · have e1 : e.2.toNat = v := by omega
          have e3 : ((e.1.toNat : Nat) : Int) = e.1 := by omega
          rw [if_neg g1, if_pos g2, e1, if_pos hv, e3]
          by_cases g3 : U e.1 = true
          · simp [g3]; omega
          · simp [g3]; omega
        · rw [if_neg g1, if_neg g2]; simp
    simp only [termsF, heat, key, ih, Int.mul_add]
    omega
theorem addSet_out (f : Nat → Int) (U : Int → Bool) (t : Int) (ht : 0 ≤ t) {v : Nat} (hv : U (v : Int) = false) : ∀ es : List (Int × Int), (∀ e ∈ es, 0 ≤ e.1 ∧ e.1 < e.2) → termsF f v es ≤ termsF (addSet f U t) v es
  | [], _ => by simp [termsF]
  | e :: l, h => by
    obtain ⟨h1, h2⟩ := h e (by simp)
    have ih := addSet_out f U t ht hv l (fun x hx => h x (by simp [hx]))
    have key : termF f v e ≤ termF (addSet f U t) v e := by
      unfold termF ind addSet
      have hv2 : ¬ U (v : Int) = true := by simp [hv]
      by_cases g1 : (v : Int) = e.1
      · have e1 : e.1.toNat = v := by omega
        have n2 : ¬ (v : Int) = e.2 := by omega
        rw [if_pos g1, if_neg n2, e1, if_neg hv2]
        split <;> omega
      · by_cases g2 : (v : Int) = e.2
        · have e1 : e.2.toNat = v := by omega
          rw [if_neg g1, if_pos g2, e1, if_neg hv2]
          split <;> omega
        · rw [if_neg g1, if_neg g2]; omega
    simp only [termsF]
    omega
theorem Ph2.fire (h : Ph2 M es d q σ f) (hw : Wt M es q σ) (hes : ∀ e ∈ es, 0 ≤ e.1 ∧ e.1 < e.2 ∧ e.2 < (M : Int)) {U : Int → Bool} {t : Int} (ht : 0 ≤ t) (hq : U (q : Int) = false) (hc : ∀ v, v < M → U (v : Int) = true → t * heat (fun x => !U x) v es ≤ Dv d es f v) : Ph2 M es d q σ (addSet f U t) :=
  h.step hw (by rw [addSet, if_neg (by rw [hq]; decide)]; exact h.zero) (fun u _ => by unfold addSet; split <;> omega) (fun u hu huq => by
    have he : ∀ e ∈ es, 0 ≤ e.1 ∧ e.1 < e.2 := fun e he => ⟨(hes e he).1, (hes e he).2.1⟩
    cases hU : U (u : Int) with
    | true =>
      have := hc u hu hU
      rw [Dv] at this ⊢
      rw [addSet_in f U t hU es he]
      omega
    | false =>
      have h1 := addSet_out f U t ht hU es he
      have h2 := h.pos u hu huq
      rw [Dv] at h2 ⊢
      omega)
end
end Go.Proofs.Ytdpojcgeblbfeaa

/- Reducing a drawn divisor, the plain math: the script stays small, the chips stay within the limit, and what a script leads to has the same reduced divisor. -/
namespace Go.Proofs.Ytdpojcgeblbfeaa
open Go.RowKit

section
variable {M : Nat} {es : List (Int × Int)} {d : List Int} {q : Nat} {f g : Nat → Int} {σ : Nat → Int}
def dualE (σ f : Nat → Int) : List (Int × Int) → Int
  | [] => 0
  | e :: l => (σ e.1.toNat * (f e.2.toNat - f e.1.toNat) + σ e.2.toNat * (f e.1.toNat - f e.2.toNat)) + dualE σ f l
theorem dualE_eq (σ f : Nat → Int) (M : Nat) : ∀ es : List (Int × Int), (∀ e ∈ es, 0 ≤ e.1 ∧ e.1 < e.2 ∧ e.2 < (M : Int)) → sumV (fun u => σ u * termsF f u es) M = dualE σ f es
  | [], _ => by simp [termsF, sumV_const, dualE]
  | e :: l, h => by
    obtain ⟨h1, h2, h3⟩ := h e (by simp)
    have ih := dualE_eq σ f M l (fun x hx => h x (by simp [hx]))
    obtain ⟨x, y⟩ := e
    simp only at h1 h2 h3
    obtain ⟨a, rfl⟩ : ∃ a : Nat, x = (a : Int) := ⟨x.toNat, by omega⟩
    obtain ⟨b, rfl⟩ : ∃ b : Nat, y = (b : Int) := ⟨y.toNat, by omega⟩
    simp only [termsF, Int.mul_add, dualE]
    rw [sumV_add, ih, dual_e σ f (by omega) (by omega)]
    simp only [Int.toNat_natCast]
def lev (f : Nat → Int) (t : Int) (u : Nat) : Int := if t ≤ f u then 1 else 0
theorem lev_term (f : Nat → Int) (t : Int) (a b : Nat) : lev f t a * (f b - f a) + lev f t b * (f a - f b) ≤ 0 := by
  unfold lev
  split <;> split <;> omega
theorem lev_all (f : Nat → Int) (t : Int) : ∀ es : List (Int × Int), dualE (lev f t) f es ≤ 0
  | [] => by simp [dualE]
  | e :: l => by
    have h1 := lev_term f t e.1.toNat e.2.toNat
    have h2 := lev_all f t l
    simp only [dualE]
    omega
theorem lev_edge (f : Nat → Int) (t : Int) {x : Int × Int} : ∀ es : List (Int × Int), x ∈ es → dualE (lev f t) f es ≤ lev f t x.1.toNat * (f x.2.toNat - f x.1.toNat) + lev f t x.2.toNat * (f x.1.toNat - f x.2.toNat)
  | [], h => by cases h
  | e :: l, h => by
    rw [List.mem_cons] at h
    rcases h with rfl | h
    · have h2 := lev_all f t l
      simp only [dualE]
      omega
    · have h1 := lev_term f t e.1.toNat e.2.toNat
      have h2 := lev_edge f t l h
      simp only [dualE]
      omega
theorem lev_next (hc : Cut M es) (hes : ∀ e ∈ es, 0 ≤ e.1 ∧ e.1 < e.2 ∧ e.2 < (M : Int)) {B t : Int} (hB : 0 ≤ B) (hq : q < M) (hb : ∀ u, u < M → u ≠ q → -B ≤ termsF f u es) (hqt : f q < t) (hex : ∃ a, a < M ∧ t ≤ f a) : ∃ w, w < M ∧ f w < t ∧ t - B * (M : Int) ≤ f w := by
  obtain ⟨a, ha, hat⟩ := hex
  obtain ⟨x, hx, hne⟩ := hc (fun y => decide (t ≤ f y.toNat)) ⟨(a : Int), by omega, by omega, by simpa using hat⟩ ⟨(q : Int), by omega, by omega, by simpa using hqt⟩
  obtain ⟨h1, h2, h3⟩ := hes x hx
  have hlow : -(B * (M : Int)) ≤ sumV (fun u => lev f t u * termsF f u es) M := by
    have := sumV_le (f := fun _ => -B) (g := fun u => lev f t u * termsF f u es) M (fun u hu => by
      by_cases e : u = q
      · subst e
        have : lev f t u = 0 := by unfold lev; rw [if_neg (by omega)]
        simp only [this, Int.zero_mul]
        omega
      · have := hb u hu e
        unfold lev
        split
        · omega
        · omega)
    rw [sumV_const, Int.neg_mul] at this
    exact this
  rw [dualE_eq _ _ M es hes] at hlow
  have h4 := lev_edge f t es hx
  by_cases p1 : t ≤ f x.1.toNat
  · by_cases p2 : t ≤ f x.2.toNat
    · simp [p1, p2] at hne
    · have e1 : lev f t x.1.toNat = 1 := by unfold lev; rw [if_pos p1]
      have e2 : lev f t x.2.toNat = 0 := by unfold lev; rw [if_neg p2]
      rw [e1, e2] at h4
      exact ⟨x.2.toNat, by omega, by omega, by omega⟩
  · by_cases p2 : t ≤ f x.2.toNat
    · have e1 : lev f t x.1.toNat = 0 := by unfold lev; rw [if_neg p1]
      have e2 : lev f t x.2.toNat = 1 := by unfold lev; rw [if_pos p2]
      rw [e1, e2] at h4
      exact ⟨x.1.toNat, by omega, by omega, by omega⟩
    · simp [p1, p2] at hne
theorem lev_top (hc : Cut M es) (hes : ∀ e ∈ es, 0 ≤ e.1 ∧ e.1 < e.2 ∧ e.2 < (M : Int)) {B : Int} (hB : 0 ≤ B) (hq : q < M) (hb : ∀ u, u < M → u ≠ q → -B ≤ termsF f u es) (a : Nat) (ha : a < M) : f a ≤ f q + B * (M : Int) * (M : Int) := by
  obtain ⟨C, hC⟩ : ∃ C, C = B * (M : Int) := ⟨_, rfl⟩
  have hC0 : 0 ≤ C := by rw [hC]; exact Int.mul_nonneg hB (by omega)
  rw [← hC]
  have key : ∀ k : Nat, f q < f a - C * (k : Int) → (k : Int) + 1 ≤ sumV (lev f (f a - C * (k : Int))) M := by
    intro k
    induction k with
    | zero =>
      intro _
      have h1 := sumV_le (f := fun u => 1 * ind u (a : Int)) (g := lev f (f a - C * ((0 : Nat) : Int))) M (fun u _ => by
        unfold ind lev
        by_cases e : u = a
        · subst e
          simp
        · rw [if_neg (by omega)]
          split <;> omega)
      rw [sumV_ind (fun _ => 1), if_pos ha] at h1
      omega
    | succ k ih =>
      intro hk
      have hCk : C * ((k + 1 : Nat) : Int) = C * (k : Int) + C := by rw [Int.natCast_add, Int.mul_add]; simp
      rw [hCk] at hk ⊢
      have h0 : 0 ≤ C * (k : Int) := Int.mul_nonneg hC0 (by omega)
      have h1 := ih (by omega)
      obtain ⟨w, hw, hw1, hw2⟩ := lev_next hc hes hB hq hb (t := f a - C * (k : Int)) (by omega) ⟨a, ha, by omega⟩
      rw [← hC] at hw2
      have h2 := sumV_le (f := fun u => lev f (f a - C * (k : Int)) u + 1 * ind u (w : Int)) (g := lev f (f a - (C * (k : Int) + C))) M (fun u _ => by
        unfold ind lev
        by_cases e : u = w
        · subst e
          rw [if_neg (by omega), if_pos rfl, if_pos (by omega)]
          omega
        · rw [if_neg (show ¬ ((u : Int) = (w : Int)) by omega)]
          split <;> split <;> omega)
      rw [sumV_add, sumV_ind (fun _ => 1), if_pos hw] at h2
      simp only [Int.natCast_add, Int.natCast_one]
      omega
  by_cases h : f q < f a - C * (M : Int)
  · have h1 := key M h
    have h2 := sumV_le (f := lev f (f a - C * (M : Int))) (g := fun _ => 1) M (fun u _ => by unfold lev; split <;> omega)
    rw [sumV_const] at h2
    omega
  · omega
theorem termsF_neg (f : Nat → Int) (u : Nat) (es : List (Int × Int)) : termsF (fun i => -f i) u es = -termsF f u es := by
  have h1 := termsF_add (fun i => -f i) f u es
  rw [termsF_zero (f := fun i => -f i + f i) (fun i => by omega)] at h1
  omega
theorem termsF_const (c : Int) (u : Nat) : ∀ es : List (Int × Int), termsF (fun _ => c) u es = 0
  | [] => rfl
  | e :: l => by rw [termsF, termsF_const c u l]; simp [termF]
theorem heat_cap (p : Int → Bool) (u : Nat) : ∀ es : List (Int × Int), (∀ e ∈ es, e.1 < e.2) → heat p u es ≤ es.length
  | [], _ => by simp [heat]
  | e :: l, h => by
    have h1 := h e (by simp)
    have ih := heat_cap p u l (fun x hx => h x (by simp [hx]))
    have key : heatE p u e ≤ 1 := by
      unfold heatE ind
      by_cases g1 : (u : Int) = e.1
      · rw [if_neg (show ¬ (u : Int) = e.2 by omega)]
        split <;> split <;> omega
      · rw [if_neg g1]
        split <;> split <;> omega
    simp only [heat, List.length_cons, Int.natCast_add, Int.natCast_one]
    omega
theorem IsRed.few (h : IsRed M es d q f) (hq : q < M) (hn : es.length ≤ 12) (hd : ∀ u, -1000000 ≤ d.getD u 0 ∧ d.getD u 0 ≤ 1000000) (hes : ∀ e ∈ es, 0 ≤ e.1 ∧ e.1 < e.2 ∧ e.2 < (M : Int)) (u : Nat) (hu : u < M) (huq : u ≠ q) : 0 ≤ Dv d es f u ∧ Dv d es f u < es.length := by
  refine ⟨h.pos u hu huq, ?_⟩
  have hq2 : 0 ≤ (q : Int) ∧ (q : Int) < (M : Int) := by omega
  have hb := (burntL_all (es := es) (d := chipsOf M (Dv d es f)) hq2).1.full h.all
  obtain ⟨v, hv, hA, hlt⟩ := burn_meets (d := chipsOf M (Dv d es f)) (es := es) hq2 (fun x => decide (x = (u : Int))) (by
    rw [decide_eq_false_iff_not]
    omega) ⟨(u : Int), hb u hu, by simp⟩
  simp only [decide_eq_true_eq] at hA
  have hvu : v = u := by omega
  subst hvu
  rw [chips_get hv (Dv_bound hn hd hes h.bound v)] at hlt
  exact Int.lt_of_lt_of_le hlt (heat_cap _ v es fun e he => (hes e he).2.1)
theorem Dv_sum (hes : ∀ e ∈ es, 0 ≤ e.1 ∧ e.1 < e.2 ∧ e.2 < (M : Int)) (d : List Int) (f : Nat → Int) : sumV (Dv d es f) M = sumV (fun u => d.getD u 0) M := by
  have h := pot_eq hes d f (fun _ => 1)
  have h1 : ∀ u, f u * termsF (fun _ => 1) u es = 0 := fun u => by rw [termsF_const, Int.mul_zero]
  rw [sumV_congr M (fun u _ => h1 u), sumV_const] at h
  rw [sumV_congr M (f := Dv d es f) (g := fun u => 1 * Dv d es f u) (fun u _ => by omega), h, sumV_congr M (f := fun u => 1 * d.getD u 0) (g := fun u => d.getD u 0) (fun u _ => by omega)]
  omega
end
end Go.Proofs.Ytdpojcgeblbfeaa

/- Equivalence, the plain math: scripts lifted so that the least element is 0, differences of scripts; what joins two divisors of one class. -/
namespace Go.Proofs.Ytdpojcgeblbfeaa
open Go.RowKit

section
variable {M : Nat} {es : List (Int × Int)} {a b d : List Int} {q : Nat} {f g t : Nat → Int}
theorem flat_script (hc : Cut M es) (hes : ∀ e ∈ es, 0 ≤ e.1 ∧ e.1 < e.2 ∧ e.2 < (M : Int)) (hM : 0 < M) (h : ∀ u, u < M → termsF f u es = 0) : ∀ u, u < M → f u = f 0 := fun u hu => by
  have h1 := lev_top (B := 0) (q := 0) (f := f) hc hes (Int.le_refl _) hM (fun v hv _ => by rw [h v hv]; omega) u hu
  have h2 := lev_top (B := 0) (q := 0) (f := fun i => -f i) hc hes (Int.le_refl _) hM (fun v hv _ => by rw [termsF_neg, h v hv]; omega) u hu
  simp only [Int.zero_mul] at h1 h2
  omega
end
end Go.Proofs.Ytdpojcgeblbfeaa
