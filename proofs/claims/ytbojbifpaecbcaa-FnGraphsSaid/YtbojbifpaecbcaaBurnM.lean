/- Burning, the plain math: the heat at a vertex, the next vertex that burns, and all that burn. -/
import Derived.Test.YtbojbifpaecbcaaFireM
namespace Go.Proofs.Ytbojbifpaecbcaa
open Go.RowKit

/-- the edges from u to the vertices of p -/
def heatE (p : Int → Bool) (u : Nat) (e : Int × Int) : Int := (if p e.2 = true then ind u e.1 else 0) + (if p e.1 = true then ind u e.2 else 0)
def heat (p : Int → Bool) (u : Nat) : List (Int × Int) → Int
  | [] => 0
  | e :: l => heatE p u e + heat p u l
theorem ind_01 (u : Nat) (x : Int) : 0 ≤ ind u x ∧ ind u x ≤ 1 := by unfold ind; split <;> omega
theorem heatE_01 (p : Int → Bool) (u : Nat) (e : Int × Int) : 0 ≤ heatE p u e ∧ heatE p u e ≤ 2 := by
  have h1 := ind_01 u e.1
  have h2 := ind_01 u e.2
  unfold heatE
  split <;> split <;> omega
theorem heat_lo (p : Int → Bool) (u : Nat) : ∀ es : List (Int × Int), 0 ≤ heat p u es ∧ heat p u es ≤ 2 * es.length
  | [] => by simp [heat]
  | e :: l => by
    have h1 := heatE_01 p u e
    have h2 := heat_lo p u l
    simp only [heat, List.length_cons]
    omega
theorem heat_append (p : Int → Bool) (u : Nat) : ∀ a b : List (Int × Int), heat p u (a ++ b) = heat p u a + heat p u b
  | [], b => by simp [heat]
  | e :: a, b => by simp only [List.cons_append, heat, heat_append p u a b]; omega
theorem heat_mono {p r : Int → Bool} (h : ∀ x, p x = true → r x = true) (u : Nat) : ∀ es : List (Int × Int), heat p u es ≤ heat r u es
  | [] => by simp [heat]
  | e :: l => by
    have h1 := ind_01 u e.1
    have h2 := ind_01 u e.2
    have h3 := heat_mono h u l
    have h4 := h e.1
    have h5 := h e.2
    simp only [heat, heatE]
    cases hp1 : p e.1 <;> cases hp2 : p e.2 <;> cases hr1 : r e.1 <;> cases hr2 : r e.2 <;> simp_all <;> omega
theorem heat_congr {p r : Int → Bool} (u : Nat) : ∀ es : List (Int × Int), (∀ e ∈ es, p e.1 = r e.1 ∧ p e.2 = r e.2) → heat p u es = heat r u es
  | [], _ => rfl
  | e :: l, h => by
    have h1 := h e (by simp)
    rw [heat, heat, heat_congr u l (fun x hx => h x (by simp [hx])), heatE, heatE, h1.1, h1.2]
theorem heat_none {p : Int → Bool} (h : ∀ x, p x = false) (u : Nat) : ∀ es : List (Int × Int), heat p u es = 0
  | [] => rfl
  | e :: l => by rw [heat, heat_none h u l, heatE, h, h]; simp
/-- what one edge brings when v begins to burn -/
def warm (v : Int) (u : Nat) (e : Int × Int) : Int := if v = e.1 then ind u e.2 else if v = e.2 then ind u e.1 else 0
def warms (v : Int) (u : Nat) : List (Int × Int) → Int
  | [] => 0
  | e :: l => warm v u e + warms v u l
theorem warms_append (v : Int) (u : Nat) : ∀ a b : List (Int × Int), warms v u (a ++ b) = warms v u a + warms v u b
  | [], b => by simp [warms]
  | e :: a, b => by simp only [List.cons_append, warms, warms_append v u a b]; omega
theorem warms_snoc (v : Int) (u : Nat) {es : List (Int × Int)} {k : Nat} {e : Int × Int} (h : es[k]? = some e) : warms v u (es.take (k + 1)) = warms v u (es.take k) + warm v u e := by
  rw [List.take_add_one, h, warms_append]
  simp [warms]
def orP (p : Int → Bool) (v : Int) (x : Int) : Bool := p x || decide (x = v)
theorem heat_light (p : Int → Bool) (v : Int) (hv : p v = false) (u : Nat) : ∀ es : List (Int × Int), (∀ e ∈ es, e.1 < e.2) → heat (orP p v) u es = heat p u es + warms v u es
  | [], _ => rfl
  | e :: l, h => by
    have h1 := h e (by simp)
    have h2 := heat_light p v hv u l (fun x hx => h x (by simp [hx]))
    simp only [heat, warms, h2]
    have : heatE (orP p v) u e = heatE p u e + warm v u e := by
      unfold heatE warm orP
      by_cases e1 : v = e.1
      · subst e1
        have : ¬ e.2 = e.1 := by omega
        simp [hv, this]
      · by_cases e2 : v = e.2
        · subst e2
          have : ¬ e.1 = e.2 := by omega
          simp [hv, this]
          omega
        · have n1 : ¬ e.1 = v := fun h => e1 h.symm
          have n2 : ¬ e.2 = v := fun h => e2 h.symm
          simp [n1, n2, e1, e2]
    omega
/-- what the specification adds up: the edges to each burning vertex -/
def sumH (es : List (Int × Int)) (p : Int → Bool) (u : Nat) : Nat → Int
  | 0 => 0
  | k + 1 => sumH es p u k + (if p (k : Int) = true then warms (k : Int) u es else 0)
theorem warms_nil (p : Int → Bool) (k : Nat) : (fun x : Int => p x && decide (x < ((k + 1 : Nat) : Int))) = if p (k : Int) = true then orP (fun x : Int => p x && decide (x < (k : Int))) (k : Int) else (fun x : Int => p x && decide (x < (k : Int))) := by
  funext x
  by_cases hp : p (k : Int) = true
  · rw [if_pos hp]
    unfold orP
    by_cases e : x = (k : Int)
    · subst e
      simp [hp]
      omega
    · have : (x < ((k + 1 : Nat) : Int)) = (x < (k : Int)) := by apply propext; omega
      simp only [this, e, decide_false, Bool.or_false]
  · rw [if_neg hp]
    by_cases e : x = (k : Int)
    · subst e
      simp at hp
      simp [hp]
    · have : (x < ((k + 1 : Nat) : Int)) = (x < (k : Int)) := by apply propext; omega
      simp only [this]
theorem heat_negs (p : Int → Bool) (u : Nat) : ∀ es : List (Int × Int), (∀ e ∈ es, 0 ≤ e.1 ∧ e.1 < e.2) → heat (fun x => p x && decide (x < ((0 : Nat) : Int))) u es = 0
  | [], _ => rfl
  | e :: l, h => by
    have h1 := h e (by simp)
    rw [heat, heat_negs p u l (fun x hx => h x (by simp [hx])), heatE]
    have a1 : ¬ e.1 < ((0 : Nat) : Int) := by omega
    have a2 : ¬ e.2 < ((0 : Nat) : Int) := by omega
    simp only [a1, a2, decide_false, Bool.and_false]
    rfl
theorem sumH_eq (es : List (Int × Int)) (p : Int → Bool) (u : Nat) (h : ∀ e ∈ es, 0 ≤ e.1 ∧ e.1 < e.2) : ∀ k, sumH es p u k = heat (fun x => p x && decide (x < (k : Int))) u es
  | 0 => by rw [sumH, heat_negs p u es h]
  | k + 1 => by
    rw [sumH, sumH_eq es p u h k, warms_nil]
    by_cases hp : p (k : Int) = true
    · rw [if_pos hp, if_pos hp, heat_light _ _ (by simp) u es (fun e he => (h e he).2)]
    · rw [if_neg hp, if_neg hp]; omega
theorem sumH_all (es : List (Int × Int)) (p : Int → Bool) (u M : Nat) (h : ∀ e ∈ es, 0 ≤ e.1 ∧ e.1 < e.2 ∧ e.2 < (M : Int)) : sumH es p u M = heat p u es := by
  rw [sumH_eq es p u (fun e he => ⟨(h e he).1, (h e he).2.1⟩) M]
  refine heat_congr u es fun e he => ?_
  have := h e he
  have a1 : e.1 < (M : Int) := by omega
  simp [a1, this.2.2]

def inL (l : List Int) (x : Int) : Bool := decide (x ∈ l)
theorem inL_snoc (l : List Int) (v : Int) : inL (l ++ [v]) = orP (inL l) v := by funext x; simp [inL, orP]
/-- v catches fire -/
def catchV (es : List (Int × Int)) (d ord : List Int) (v : Nat) : Bool := decide (d.getD v 0 < heat (inL ord) v es) && !inL ord (v : Int)
def nextV (M : Nat) (es : List (Int × Int)) (d ord : List Int) : Option Nat := (List.range M).find? (catchV es d ord)
theorem nextV_none {M : Nat} {es : List (Int × Int)} {d ord : List Int} (h : ∀ v, v < M → catchV es d ord v = false) : nextV M es d ord = none := by
  rw [nextV, List.find?_eq_none]
  intro x hx
  rw [h x (List.mem_range.1 hx)]
  simp
theorem nextV_some {M : Nat} {es : List (Int × Int)} {d ord : List Int} {v : Nat} (hv : v < M) (hc : catchV es d ord v = true) (h : ∀ j, j < v → catchV es d ord j = false) : nextV M es d ord = some v := by
  rw [nextV, List.find?_range_eq_some]
  exact ⟨hc, List.mem_range.2 hv, fun j hj => by rw [h j hj]; rfl⟩
theorem nextV_get {M : Nat} {es : List (Int × Int)} {d ord : List Int} {v : Nat} (h : nextV M es d ord = some v) : v < M ∧ catchV es d ord v = true := by
  have h1 := List.find?_some h
  exact ⟨List.mem_range.1 (List.mem_of_find?_eq_some h), h1⟩
theorem nextV_no {M : Nat} {es : List (Int × Int)} {d ord : List Int} (h : nextV M es d ord = none) (v : Nat) (hv : v < M) : catchV es d ord v = false := by
  rw [nextV, List.find?_eq_none] at h
  simpa using h v (List.mem_range.2 hv)
theorem catchV_iff {es : List (Int × Int)} {d ord : List Int} {v : Nat} : catchV es d ord v = true ↔ d.getD v 0 < heat (inL ord) v es ∧ ¬ (v : Int) ∈ ord := by simp [catchV, inL]
/-- what burns from ord on, k more at most -/
def burnL (M : Nat) (es : List (Int × Int)) (d : List Int) : Nat → List Int → List Int
  | 0, ord => ord
  | k + 1, ord => match nextV M es d ord with
    | none => ord
    | some v => burnL M es d k (ord ++ [(v : Int)])
def burntL (M : Nat) (es : List (Int × Int)) (d : List Int) (q : Int) : List Int := burnL M es d M [q]
theorem burnL_end {M : Nat} {es : List (Int × Int)} {d ord : List Int} (h : nextV M es d ord = none) (k : Nat) : burnL M es d k ord = ord := by
  cases k with
  | zero => rfl
  | succ k => rw [burnL, h]
/-- the vertices that burn so far -/
structure Burns (M : Nat) (q : Int) (ord : List Int) : Prop where
  nodup : ord.Nodup
  bound : ∀ x ∈ ord, 0 ≤ x ∧ x < (M : Int)
  first : q ∈ ord
theorem Burns.start {M : Nat} {q : Int} (h : 0 ≤ q ∧ q < (M : Int)) : Burns M q [q] := ⟨by simp, fun x hx => by simp at hx; subst hx; exact h, by simp⟩
theorem Burns.push {M : Nat} {q : Int} {ord : List Int} {v : Nat} (h : Burns M q ord) (hv : v < M) (hn : ¬ (v : Int) ∈ ord) : Burns M q (ord ++ [(v : Int)]) where
  nodup := by
    rw [List.nodup_append]
    exact ⟨h.nodup, by simp, fun a ha c hc => by simp at hc; subst hc; exact fun he => hn (he ▸ ha)⟩
  bound := fun y hy => by
    rw [List.mem_append] at hy
    rcases hy with g | g
    · exact h.bound y g
    · simp at g; subst g; omega
  first := by simp [h.first]
theorem nodup_lenB : ∀ (l m : List Int), l.Nodup → (∀ x ∈ l, x ∈ m) → l.length ≤ m.length
  | [], m, _, _ => Nat.zero_le _
  | a :: l, m, hd, hs => by
    rw [List.nodup_cons] at hd
    have ha : a ∈ m := hs a (by simp)
    have h1 := nodup_lenB l (m.erase a) hd.2 fun x hx => (List.mem_erase_of_ne (by rintro rfl; exact hd.1 hx)).2 (hs x (by simp [hx]))
    have h2 := List.length_erase_of_mem ha
    have h3 := List.length_pos_of_mem ha
    rw [List.length_cons]
    omega
theorem mem_rangeI {M : Nat} {x : Int} : x ∈ (List.range M).map (Int.ofNat) ↔ 0 ≤ x ∧ x < (M : Int) := by
  simp only [List.mem_map, List.mem_range]
  constructor
  · rintro ⟨i, h, rfl⟩
    simp only [Int.ofNat_eq_natCast]
    omega
  · rintro ⟨h1, h2⟩; exact ⟨x.toNat, by omega, by simp only [Int.ofNat_eq_natCast]; omega⟩
theorem Burns.len {M : Nat} {q : Int} {ord : List Int} (h : Burns M q ord) : ord.length ≤ M := by
  have := nodup_lenB ord ((List.range M).map Int.ofNat) h.nodup fun x hx => mem_rangeI.2 (h.bound x hx)
  simpa using this
theorem Burns.len_lt {M : Nat} {q : Int} {ord : List Int} {v : Nat} (h : Burns M q ord) (hv : v < M) (hn : ¬ (v : Int) ∈ ord) : ord.length < M := by
  have := (h.push hv hn).len
  simp at this
  omega
theorem Burns.full {M : Nat} {q : Int} {ord : List Int} (h : Burns M q ord) (hl : ord.length = M) (v : Nat) (hv : v < M) : (v : Int) ∈ ord := by
  apply Classical.byContradiction
  intro hn
  have := h.len_lt hv hn
  omega
theorem Burns.full_iff {M : Nat} {q : Int} {ord : List Int} (h : Burns M q ord) : ord.length = M ↔ ∀ v : Nat, v < M → (v : Int) ∈ ord := by
  refine ⟨fun hl v hv => h.full hl v hv, fun hv => ?_⟩
  have h1 := nodup_lenB ((List.range M).map Int.ofNat) ord (by
    rw [List.nodup_iff_pairwise_ne, List.pairwise_map]
    exact List.Pairwise.imp (fun {a b} h => by simp only [Int.ofNat_eq_natCast]; omega) (List.nodup_iff_pairwise_ne.1 List.nodup_range)) fun x hx => by
    have := mem_rangeI.1 hx
    have h2 := hv x.toNat (by omega)
    rwa [show ((x.toNat : Nat) : Int) = x by omega] at h2
  have h2 := h.len
  simp at h1
  omega
/-- the loop's own claim: k more, and the end is OUT -/
structure BurnI (M : Nat) (es : List (Int × Int)) (d : List Int) (q : Int) (ord : List Int) : Prop extends Burns M q ord where
  goal : ∃ k, M ≤ k + ord.length ∧ burnL M es d k ord = burntL M es d q
theorem BurnI.start {M : Nat} {es : List (Int × Int)} {d : List Int} {q : Int} (h : 0 ≤ q ∧ q < (M : Int)) : BurnI M es d q [q] := ⟨Burns.start h, M, by simp, rfl⟩
theorem BurnI.push {M : Nat} {es : List (Int × Int)} {d ord : List Int} {q : Int} {v : Nat} (h : BurnI M es d q ord) (hv : nextV M es d ord = some v) : BurnI M es d q (ord ++ [(v : Int)]) := by
  obtain ⟨h1, h2⟩ := nextV_get hv
  obtain ⟨_, h3⟩ := catchV_iff.1 h2
  refine ⟨h.toBurns.push h1 h3, ?_⟩
  obtain ⟨k, hk, hg⟩ := h.goal
  have := h.toBurns.len_lt h1 h3
  cases k with
  | zero => omega
  | succ k =>
    rw [burnL, hv] at hg
    exact ⟨k, by simp; omega, hg⟩
theorem BurnI.done {M : Nat} {es : List (Int × Int)} {d ord : List Int} {q : Int} (h : BurnI M es d q ord) (hv : nextV M es d ord = none) : ord = burntL M es d q := by
  obtain ⟨k, _, hg⟩ := h.goal
  rw [burnL_end hv] at hg
  exact hg
/-- what holds of a burning order holds of all that burn -/
theorem burnL_ind {M : Nat} {es : List (Int × Int)} {d : List Int} {q : Int} {P : List Int → Prop}
    (hs : ∀ ord v, Burns M q ord → P ord → nextV M es d ord = some v → P (ord ++ [(v : Int)])) : ∀ k ord, Burns M q ord → P ord → Burns M q (burnL M es d k ord) ∧ P (burnL M es d k ord) ∧ (M ≤ k + ord.length → nextV M es d (burnL M es d k ord) = none)
  | 0, ord, hb, hp => ⟨hb, hp, fun hk => by
    rw [burnL]
    cases hn : nextV M es d ord with
    | none => rfl
    | some v =>
      obtain ⟨h1, h2⟩ := nextV_get hn
      obtain ⟨_, h3⟩ := catchV_iff.1 h2
      have := hb.len_lt h1 h3
      omega⟩
  | k + 1, ord, hb, hp => by
    rw [burnL]
    cases hn : nextV M es d ord with
    | none => exact ⟨hb, hp, fun _ => hn⟩
    | some v =>
      obtain ⟨h1, h2⟩ := nextV_get hn
      obtain ⟨_, h3⟩ := catchV_iff.1 h2
      obtain ⟨a1, a2, a3⟩ := burnL_ind hs k (ord ++ [(v : Int)]) (hb.push h1 h3) (hs ord v hb hp hn)
      exact ⟨a1, a2, fun hk => a3 (by simp; omega)⟩
theorem burntL_all {M : Nat} {es : List (Int × Int)} {d : List Int} {q : Int} (hq : 0 ≤ q ∧ q < (M : Int)) : Burns M q (burntL M es d q) ∧ nextV M es d (burntL M es d q) = none := by
  obtain ⟨h1, _, h2⟩ := burnL_ind (M := M) (es := es) (d := d) (q := q) (P := fun _ => True) (fun _ _ _ _ _ => trivial) M [q] (Burns.start hq) trivial
  exact ⟨h1, h2 (by simp)⟩
/-- a set without q that the fire meets has a vertex with fewer chips than edges to the outside -/
theorem burn_meets {M : Nat} {es : List (Int × Int)} {d : List Int} {q : Int} (hq : 0 ≤ q ∧ q < (M : Int)) (A : Int → Bool) (hA : A q = false) (hm : ∃ x ∈ burntL M es d q, A x = true) :
    ∃ v : Nat, v < M ∧ A (v : Int) = true ∧ d.getD v 0 < heat (fun x => !A x) v es := by
  have h := (burnL_ind (M := M) (es := es) (d := d) (q := q) (P := fun ord => (∃ x ∈ ord, A x = true) → ∃ v : Nat, v < M ∧ A (v : Int) = true ∧ d.getD v 0 < heat (fun x => !A x) v es) (by
    intro ord v _ hp hn ⟨x, hx, hax⟩
    by_cases ho : ∃ y ∈ ord, A y = true
    · exact hp ho
    · obtain ⟨h1, h2⟩ := nextV_get hn
      obtain ⟨h4, h3⟩ := catchV_iff.1 h2
      rw [List.mem_append, List.mem_singleton] at hx
      rcases hx with hx | rfl
      · exact absurd ⟨x, hx, hax⟩ ho
      · refine ⟨v, h1, hax, Int.lt_of_lt_of_le h4 (heat_mono (fun y hy => ?_) v es)⟩
        have hy2 : y ∈ ord := by simpa [inL] using hy
        cases hay : A y with
        | false => rfl
        | true => exact absurd ⟨y, hy2, hay⟩ ho) M [q] (Burns.start hq) (by
    rintro ⟨x, hx, hax⟩
    simp at hx
    subst hx
    rw [hA] at hax
    cases hax)).2.1
  exact h hm
/-- the vertices that do not burn, in order -/
def sparedL (M : Nat) (ord : List Int) : List Int := ((List.range M).filter fun (v : Nat) => !inL ord (v : Int)).map fun (v : Nat) => (v : Int)
end Go.Proofs.Ytbojbifpaecbcaa
