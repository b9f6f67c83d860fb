/- All recurrent configurations and all parking functions, the plain math: the specification's recursion, the counter, the order. -/
import Derived.Test.YtdpojcgeblbfeaaVRecN
import Derived.Test.YtdpojcgeblbfeaaVBU
set_option linter.all false
namespace Go.Proofs.Ytdpojcgeblbfeaa
open Go.RowKit

def allG (f : Nat → Nat) (good : List Int → Bool) : Nat → List Int → List (List Int)
  | 0, part => if good part = true then [part] else []
  | j + 1, part => (List.range (f part.length)).flatMap fun x : Nat => allG f good j (part ++ [(x : Int)])
theorem getD_lowA {x : List Int} {y : Int} {u : Nat} (h : u < x.length) : (x ++ [y]).getD u 0 = x.getD u 0 := by simp [List.getD, List.getElem?_append_left h]
theorem getD_topA {x : List Int} {y : Int} : (x ++ [y]).getD x.length 0 = y := by simp [List.getD]
theorem allG_mem {f : Nat → Nat} {good : List Int → Bool} {x : List Int} : ∀ (j : Nat) (part : List Int), x ∈ allG f good j part ↔ x.length = part.length + j ∧ good x = true ∧ (∀ u, u < part.length → x.getD u 0 = part.getD u 0) ∧ ∀ u, part.length ≤ u → u < part.length + j → 0 ≤ x.getD u 0 ∧ x.getD u 0 < (f u : Int)
  | 0, part => by
    rw [allG]
    constructor
    · intro h
      split at h
      · next hg =>
        rw [List.mem_singleton] at h
        subst h
        exact ⟨rfl, hg, fun _ _ => rfl, fun u h1 h2 => absurd h2 (by omega)⟩
      · cases h
    · rintro ⟨h1, h2, h3, -⟩
      have e : x = part := list_same h1 fun u hu => h3 u (by omega)
      subst e
      rw [if_pos h2]
      simp
  | j + 1, part => by
    rw [allG, List.mem_flatMap]
    constructor
    · rintro ⟨y, hy, hx⟩
      rw [List.mem_range] at hy
      obtain ⟨h1, h2, h3, h4⟩ := (allG_mem j (part ++ [(y : Int)])).1 hx
      rw [List.length_append, List.length_singleton] at h1 h3 h4
      refine ⟨by omega, h2, fun u hu => ?_, fun u hu hu2 => ?_⟩
      · rw [h3 u (by omega), getD_lowA hu]
      · by_cases e : u = part.length
        · subst e
          rw [h3 part.length (by omega), getD_topA]
          omega
        · exact h4 u (by omega) (by omega)
    · rintro ⟨h1, h2, h3, h4⟩
      have h5 := h4 part.length (Nat.le_refl _) (by omega)
      refine ⟨(x.getD part.length 0).toNat, List.mem_range.2 (by omega), (allG_mem j _).2 ?_⟩
      rw [List.length_append, List.length_singleton]
      refine ⟨by omega, h2, fun u hu => ?_, fun u hu hu2 => h4 u (by omega) (by omega)⟩
      by_cases e : u < part.length
      · rw [getD_lowA e, h3 u e]
      · have e2 : u = part.length := by omega
        subst e2
        rw [getD_topA]
        omega
theorem nodup_flatA {f : Nat → List (List Int)} : ∀ l : List Nat, (∀ x ∈ l, (f x).Nodup) → l.Nodup → (∀ x ∈ l, ∀ y ∈ l, x ≠ y → ∀ z, z ∈ f x → ¬ z ∈ f y) → (l.flatMap f).Nodup
  | [], _, _, _ => by simp
  | x :: l, h1, h2, h3 => by
    rw [List.nodup_cons] at h2
    rw [List.flatMap_cons, List.nodup_append]
    refine ⟨h1 x (by simp), nodup_flatA l (fun y hy => h1 y (by simp [hy])) h2.2 (fun y hy z hz => h3 y (by simp [hy]) z (by simp [hz])), fun a ha b hb e => ?_⟩
    subst e
    obtain ⟨y, hy, hz⟩ := List.mem_flatMap.1 hb
    exact h3 x (by simp) y (by simp [hy]) (fun e => h2.1 (e ▸ hy)) a ha hz
theorem allG_nodup {f : Nat → Nat} {good : List Int → Bool} : ∀ (j : Nat) (part : List Int), (allG f good j part).Nodup
  | 0, part => by
    rw [allG]
    split <;> simp
  | j + 1, part => by
    rw [allG]
    refine nodup_flatA _ (fun x _ => allG_nodup j _) List.nodup_range fun x _ y _ hne z hz hz2 => hne ?_
    have h1 := ((allG_mem j _).1 hz).2.2.1 part.length (by simp)
    have h2 := ((allG_mem j _).1 hz2).2.2.1 part.length (by simp)
    rw [getD_topA] at h1 h2
    omega
/-! ### the recurrent configurations -/
def limV (k : Nat) (es : List (Int × Int)) (u : Nat) : Nat := if u = k then 1 else max 1 (valP es u).toNat
def burnsB (M k : Nat) (es : List (Int × Int)) (r : List Int) : Bool := decide ((burntL M es r (k : Int)).length = M)
def redL (M k : Nat) (es : List (Int × Int)) : List (List Int) := allG (limV k es) (burnsB M k es) M []
def pilesL (M k : Nat) (es : List (Int × Int)) : List (List Int) := sortL ((redL M k es).map (dualL M k es))
def parksL (M k : Nat) (es : List (Int × Int)) : List (List Int) := sortL ((redL M k es).map fun r => r.set k (-1))
section
variable {M k : Nat} {es : List (Int × Int)} {x y : List Int}
theorem red_mem : x ∈ redL M k es ↔ x.length = M ∧ burnsB M k es x = true ∧ ∀ u, u < M → 0 ≤ x.getD u 0 ∧ x.getD u 0 < (limV k es u : Int) := by
  unfold redL
  rw [allG_mem]
  simp only [List.length_nil, Nat.zero_add]
  exact ⟨fun ⟨a, b, _, d⟩ => ⟨a, b, fun u hu => d u (Nat.zero_le _) hu⟩, fun ⟨a, b, d⟩ => ⟨a, b, fun u hu => absurd hu (by omega), fun u _ hu => d u hu⟩⟩
theorem set_get {z : Int} {u : Nat} (hk : k < x.length) : (x.set k z).getD u 0 = if u = k then z else x.getD u 0 := by
  rw [List.getD, List.getElem?_set]
  by_cases e : u = k
  · subst e
    rw [if_pos rfl, if_pos hk, if_pos rfl]
    rfl
  · rw [if_neg (fun h => e h.symm), if_neg e]
    rfl
theorem red_zero (hk : k < M) (h : x ∈ redL M k es) : x.length = M ∧ x.getD k 0 = 0 := by
  obtain ⟨h1, -, h3⟩ := red_mem.1 h
  have := h3 k hk
  unfold limV at this
  rw [if_pos rfl] at this
  exact ⟨h1, by omega⟩
theorem parks_nodup (hk : k < M) : ((redL M k es).map fun r => r.set k (-1)).Nodup := by
  rw [List.Nodup, List.pairwise_map]
  refine (allG_nodup M []).imp_of_mem fun {a b} ha hb hab e => hab ?_
  obtain ⟨a1, a2⟩ := red_zero hk ha
  obtain ⟨b1, b2⟩ := red_zero hk hb
  have ea : a = (a.set k (-1)).set k 0 := by
    refine list_same (by simp) fun u hu => ?_
    rw [set_get (by simp; omega), set_get (by omega)]
    split
    · next h => rw [h, a2]
    · rfl
  have eb : b = (b.set k (-1)).set k 0 := by
    refine list_same (by simp) fun u hu => ?_
    rw [set_get (by simp; omega), set_get (by omega)]
    split
    · next h => rw [h, b2]
    · rfl
  rw [ea, eb]
  have e : a.set k (-1) = b.set k (-1) := e
  rw [e]
theorem parks_sorted (hk : k < M) : (parksL M k es).Pairwise fun a b => lessL a b = true := sortL_sorted (n := M) (fun y hy => by
  obtain ⟨r, hr, rfl⟩ := List.mem_map.1 hy
  rw [List.length_set]
  exact (red_zero hk hr).1) (parks_nodup hk)
theorem parks_mem : x ∈ parksL M k es ↔ ∃ r ∈ redL M k es, x = r.set k (-1) := by
  unfold parksL
  rw [sortL_mem, List.mem_map]
  exact ⟨fun ⟨r, h, e⟩ => ⟨r, h, e.symm⟩, fun ⟨r, h, e⟩ => ⟨r, h, e.symm⟩⟩
theorem lim_le (hes : ∀ e ∈ es, e.1 < e.2) (hn : es.length ≤ 12) (u : Nat) : limV k es u ≤ 12 := by
  have := nets_self u es hes
  unfold limV valP
  split <;> omega
theorem piles_len : (pilesL M k es).length = (redL M k es).length ∧ (parksL M k es).length = (redL M k es).length := by
  unfold pilesL parksL
  rw [sortL_len, sortL_len, List.length_map, List.length_map]
  exact ⟨rfl, rfl⟩
end
end Go.Proofs.Ytdpojcgeblbfeaa
