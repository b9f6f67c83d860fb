/- Firing, the plain math: chips after sends, sums over edges, vertices and scripts. -/
import Derived.RowKit
namespace Go.Proofs.Ytbojbifpaecbcaa
open Go.RowKit

theorem wrap64_idem (a : Int) : wrap64 (wrap64 a) = wrap64 a := by unfold wrap64; omega
theorem wrap64_addL (a b : Int) : wrap64 (wrap64 a + b) = wrap64 (a + b) := by unfold wrap64; omega
theorem wrap64_subL (a b : Int) : wrap64 (wrap64 a - b) = wrap64 (a - b) := by unfold wrap64; omega
theorem wrap64_addR (a b : Int) : wrap64 (a + wrap64 b) = wrap64 (a + b) := by unfold wrap64; omega
theorem wrap64_of {n : Int} (h : -9223372036854775808 ≤ n) (h2 : n ≤ 9223372036854775807) : wrap64 n = n := by unfold wrap64; omega
theorem wrap64_lo (n : Int) : -9223372036854775808 ≤ wrap64 n ∧ wrap64 n ≤ 9223372036854775807 := by unfold wrap64; omega

/-- the chips of M vertices, as a list, each wrapped -/
def chipsOf (M : Nat) (f : Nat → Int) : List Int := (List.range M).map fun u => wrap64 (f u)
theorem chipsOf_len (M : Nat) (f : Nat → Int) : (chipsOf M f).length = M := by simp [chipsOf]
theorem chipsOf_at {M : Nat} (f : Nat → Int) {u : Nat} (h : u < M) : (chipsOf M f)[u]? = some (wrap64 (f u)) := by simp [chipsOf, h]
theorem chipsOf_eq {M : Nat} {f g : Nat → Int} (h : ∀ u, u < M → f u = g u) : chipsOf M f = chipsOf M g := by
  unfold chipsOf
  apply List.map_congr_left
  intro u hu
  rw [h u (List.mem_range.1 hu)]
theorem chipsOf_ext {M : Nat} {f : Nat → Int} {l : List Int} (hl : l.length = M) (h : ∀ u (x : Int), l[u]? = some x → wrap64 (f u) = x) : chipsOf M f = l := by
  apply List.ext_getElem?
  intro u
  by_cases hu : u < M
  · rw [chipsOf_at f hu, List.getElem?_eq_getElem (by omega)]
    rw [h u _ (List.getElem?_eq_getElem (by omega))]
  · rw [List.getElem?_eq_none (by rw [chipsOf_len]; omega), List.getElem?_eq_none (by omega)]
/-- one more of v at a -/
def addAt (f : Nat → Int) (a : Nat) (v : Int) (u : Nat) : Int := if u = a then f u + v else f u
theorem chipsOf_set (M : Nat) (f : Nat → Int) (a : Nat) (x v : Int) (h : x = wrap64 (f a + v)) : (chipsOf M f).set a x = chipsOf M (addAt f a v) := by
  apply List.ext_getElem?
  intro u
  by_cases hu : u < M
  · rw [chipsOf_at _ hu]
    by_cases e : u = a
    · subst e
      rw [List.getElem?_set_self (by rw [chipsOf_len]; exact hu), h, addAt, if_pos rfl]
    · rw [List.getElem?_set_ne (Ne.symm e), chipsOf_at _ hu, addAt, if_neg e]
  · rw [List.getElem?_eq_none (by simp [chipsOf_len]; omega), List.getElem?_eq_none (by rw [chipsOf_len]; omega)]

def ind (u : Nat) (x : Int) : Int := if (u : Int) = x then 1 else 0
/-- what the vertex u gets of one firing of v along the edge e -/
def net (v : Int) (u : Nat) (e : Int × Int) : Int := if v = e.1 then ind u e.2 - ind u e.1 else if v = e.2 then ind u e.1 - ind u e.2 else 0
def nets (v : Int) (u : Nat) : List (Int × Int) → Int
  | [] => 0
  | e :: l => net v u e + nets v u l
theorem nets_append (v : Int) (u : Nat) : ∀ a b : List (Int × Int), nets v u (a ++ b) = nets v u a + nets v u b
  | [], b => by simp [nets]
  | e :: a, b => by simp only [List.cons_append, nets, nets_append v u a b]; omega
theorem nets_snoc (v : Int) (u : Nat) {es : List (Int × Int)} {k : Nat} {e : Int × Int} (h : es[k]? = some e) : nets v u (es.take (k + 1)) = nets v u (es.take k) + net v u e := by
  rw [List.take_add_one, h, nets_append]
  simp [nets]
/-- the chips after the vertex v has fired t times along the edges es -/
def fireF (f : Nat → Int) (v t : Int) (es : List (Int × Int)) (u : Nat) : Int := f u + t * nets v u es
theorem fireF_nil (f : Nat → Int) (v t : Int) : fireF f v t [] = f := by funext u; simp [fireF, nets]
theorem fireF_step (f : Nat → Int) (v t : Int) {es : List (Int × Int)} {k : Nat} {e : Int × Int} (h : es[k]? = some e) (u : Nat) :
    fireF f v t (es.take (k + 1)) u = fireF f v t (es.take k) u + t * net v u e := by
  rw [fireF, fireF, nets_snoc v u h, Int.mul_add]
  omega
theorem net_1 {v : Int} {e : Int × Int} (h : v = e.1) (u : Nat) : net v u e = ind u e.2 - ind u e.1 := by rw [net, if_pos h]
theorem net_2 {v : Int} {e : Int × Int} (h1 : v ≠ e.1) (h : v = e.2) (u : Nat) : net v u e = ind u e.1 - ind u e.2 := by rw [net, if_neg h1, if_pos h]
theorem net_0 {v : Int} {e : Int × Int} (h1 : v ≠ e.1) (h2 : v ≠ e.2) (u : Nat) : net v u e = 0 := by rw [net, if_neg h1, if_neg h2]
/-- t chips sent from a to b -/
theorem send_f (f : Nat → Int) (a b : Nat) (t : Int) (h : a ≠ b) (u : Nat) : addAt (addAt f a (-t)) b t u = f u + t * (ind u b - ind u a) := by
  unfold addAt ind
  by_cases h1 : u = b
  · subst h1
    rw [if_pos rfl, if_neg (Ne.symm h), if_pos rfl, if_neg (by omega)]
    simp
  · rw [if_neg h1]
    by_cases h2 : u = a
    · subst h2
      rw [if_pos rfl, if_neg (by omega), if_pos rfl]
      simp
    · rw [if_neg h2, if_neg (by omega), if_neg (by omega)]
      simp
/-- after the first k vertices of a script have fired -/
def scriptF (f : Nat → Int) (s : List Int) (es : List (Int × Int)) : Nat → Nat → Int
  | 0 => f
  | k + 1 => fireF (scriptF f s es k) (k : Int) (s.getD k 0) es
/-- what the specification adds at u for the edge e -/
def term (s : List Int) (u : Nat) (e : Int × Int) : Int := ind u e.1 * (s.getD e.2.toNat 0 - s.getD e.1.toNat 0) + ind u e.2 * (s.getD e.1.toNat 0 - s.getD e.2.toNat 0)
def terms (s : List Int) (u : Nat) : List (Int × Int) → Int
  | [] => 0
  | e :: l => term s u e + terms s u l
theorem terms_append (s : List Int) (u : Nat) : ∀ a b : List (Int × Int), terms s u (a ++ b) = terms s u a + terms s u b
  | [], b => by simp [terms]
  | e :: a, b => by simp only [List.cons_append, terms, terms_append s u a b]; omega
theorem terms_snoc (s : List Int) (u : Nat) {es : List (Int × Int)} {k : Nat} {e : Int × Int} (h : es[k]? = some e) : terms s u (es.take (k + 1)) = terms s u (es.take k) + term s u e := by
  rw [List.take_add_one, h, terms_append]
  simp [terms]
/-- the sum of the first k vertices' shares of one edge -/
def partS (s : List Int) (u : Nat) (e : Int × Int) : Nat → Int
  | 0 => 0
  | k + 1 => partS s u e k + s.getD k 0 * net (k : Int) u e
def partSs (s : List Int) (u : Nat) (k : Nat) : List (Int × Int) → Int
  | [] => 0
  | e :: l => partS s u e k + partSs s u k l
theorem partSs_zero (s : List Int) (u : Nat) : ∀ es, partSs s u 0 es = 0
  | [] => rfl
  | e :: l => by simp [partSs, partS, partSs_zero s u l]
theorem partSs_succ (s : List Int) (u k : Nat) : ∀ es, partSs s u (k + 1) es = partSs s u k es + s.getD k 0 * nets (k : Int) u es
  | [] => by simp [partSs, nets]
  | e :: l => by
    simp only [partSs, partS, nets, partSs_succ s u k l, Int.mul_add]
    omega
theorem scriptF_eq (f : Nat → Int) (s : List Int) (es : List (Int × Int)) (u : Nat) : ∀ k, scriptF f s es k u = f u + partSs s u k es
  | 0 => by simp [scriptF, partSs_zero]
  | k + 1 => by
    rw [scriptF, fireF, scriptF_eq f s es u k, partSs_succ]
    omega
theorem partS_eq (s : List Int) (u : Nat) {a b : Nat} (hab : a < b) : ∀ k, partS s u ((a : Int), (b : Int)) k =
    (if a < k then s.getD a 0 * (ind u b - ind u a) else 0) + (if b < k then s.getD b 0 * (ind u a - ind u b) else 0)
  | 0 => by simp [partS]
  | k + 1 => by
    rw [partS, partS_eq s u hab k]
    by_cases h1 : k = a
    · subst h1
      rw [net_1 (v := (k : Int)) (e := ((k : Int), (b : Int))) rfl, if_neg (by omega), if_neg (by omega), if_pos (by omega), if_neg (by omega)]
      simp
    · by_cases h2 : k = b
      · subst h2
        rw [net_2 (v := (k : Int)) (e := ((a : Int), (k : Int))) (by simp; omega) rfl, if_pos (by omega), if_neg (by omega), if_pos (by omega), if_pos (by omega)]
        simp
      · rw [net_0 (v := (k : Int)) (e := ((a : Int), (b : Int))) (by simp; omega) (by simp; omega)]
        have e1 : (a < k + 1) = (a < k) := by apply propext; omega
        have e2 : (b < k + 1) = (b < k) := by apply propext; omega
        simp only [e1, e2, Int.mul_zero, Int.add_zero]
theorem partSs_all (s : List Int) (u M : Nat) : ∀ es : List (Int × Int), (∀ e ∈ es, 0 ≤ e.1 ∧ e.1 < e.2 ∧ e.2 < (M : Int)) → partSs s u M es = terms s u es
  | [], _ => rfl
  | e :: l, h => by
    obtain ⟨h1, h2, h3⟩ := h e (by simp)
    rw [partSs, terms, partSs_all s u M l (fun x hx => h x (by simp [hx]))]
    congr 1
    obtain ⟨x, y⟩ := e
    simp only at h1 h2 h3
    obtain ⟨a, rfl⟩ : ∃ a : Nat, x = (a : Int) := ⟨x.toNat, by omega⟩
    obtain ⟨b, rfl⟩ : ∃ b : Nat, y = (b : Int) := ⟨y.toNat, by omega⟩
    rw [partS_eq s u (by omega), if_pos (by omega), if_pos (by omega), term]
    simp only [Int.toNat_natCast, Int.mul_sub]
    have q1 := Int.mul_comm (ind u (a : Int)) (s.getD b 0)
    have q2 := Int.mul_comm (ind u (a : Int)) (s.getD a 0)
    have q3 := Int.mul_comm (ind u (b : Int)) (s.getD a 0)
    have q4 := Int.mul_comm (ind u (b : Int)) (s.getD b 0)
    omega
/-- the divisor after a script -/
def firedB (M : Nat) (es : List (Int × Int)) (d s : List Int) : List Int := chipsOf M fun u => d.getD u 0 + terms s u es
theorem firedB_len (M : Nat) (es : List (Int × Int)) (d s : List Int) : (firedB M es d s).length = M := chipsOf_len _ _
theorem scriptF_all {M : Nat} {es : List (Int × Int)} (d s : List Int) (h : ∀ e ∈ es, 0 ≤ e.1 ∧ e.1 < e.2 ∧ e.2 < (M : Int)) :
    chipsOf M (scriptF (fun u => d.getD u 0) s es M) = firedB M es d s := chipsOf_eq fun u _ => by rw [scriptF_eq, partSs_all s u M es h]
theorem chips_start {M : Nat} {d : List Int} (hl : d.length = M) (hw : ∀ x ∈ d, -9223372036854775808 ≤ x ∧ x ≤ 9223372036854775807) : chipsOf M (fun u => d.getD u 0) = d :=
  chipsOf_ext hl fun u x hx => by
    have := hw x (List.mem_of_getElem? hx)
    simp [hx]
    exact wrap64_of this.1 this.2
/-- the script of a set: 1 at each vertex of it -/
def setL (M : Nat) (l : List Int) : List Int := (List.range M).map fun (v : Nat) => if (v : Int) ∈ l then 1 else 0
theorem setL_len (M : Nat) (l : List Int) : (setL M l).length = M := by simp [setL]
theorem setL_nil (M : Nat) : setL M [] = List.replicate M 0 := by
  apply List.ext_getElem?
  intro u
  by_cases hu : u < M
  · simp [setL, hu]
  · rw [List.getElem?_eq_none (by rw [setL_len]; omega), List.getElem?_eq_none (by simp; omega)]
theorem setL_at {M u : Nat} (l : List Int) (h : u < M) : (setL M l)[u]? = some (if (u : Int) ∈ l then 1 else 0) := by simp [setL, h]
theorem setL_snoc (M v : Nat) (l : List Int) : setL M (l ++ [(v : Int)]) = (setL M l).set v 1 := by
  apply List.ext_getElem?
  intro u
  by_cases hu : u < M
  · rw [setL_at _ hu]
    by_cases e : u = v
    · subst e
      rw [List.getElem?_set_self (by rw [setL_len]; exact hu), if_pos (by simp)]
    · rw [List.getElem?_set_ne (Ne.symm e), setL_at _ hu]
      simp only [List.mem_append, List.mem_singleton]
      have : ¬ ((u : Int) = (v : Int)) := by omega
      simp [this]
  · rw [List.getElem?_eq_none (by rw [setL_len]; omega), List.getElem?_eq_none (by simp [setL_len]; omega)]
theorem partSs_set (s : List Int) (u v : Nat) (es : List (Int × Int)) (h0 : s.getD v 0 = 0) (hv : v < s.length) : ∀ k, partSs (s.set v 1) u k es = partSs s u k es + (if v < k then nets (v : Int) u es else 0)
  | 0 => by simp [partSs_zero]
  | k + 1 => by
    rw [partSs_succ, partSs_succ, partSs_set s u v es h0 hv k]
    by_cases e : k = v
    · subst e
      have e1 : (s.set k 1).getD k 0 = 1 := by simp [List.getD, List.getElem?_set_self hv]
      rw [e1, h0, if_neg (by omega), if_pos (by omega)]
      simp
    · have e1 : (s.set v 1).getD k 0 = s.getD k 0 := by simp [List.getD, List.getElem?_set_ne (Ne.symm e)]
      have e2 : (v < k + 1) = (v < k) := by apply propext; omega
      rw [e1]
      simp only [e2]
      omega
/-- the chips after the vertices of l have fired once each -/
def setF (f : Nat → Int) (M : Nat) (es : List (Int × Int)) (l : List Int) (u : Nat) : Int := f u + partSs (setL M l) u M es
theorem partSs_zeros (u M : Nat) (es : List (Int × Int)) : ∀ k, partSs (List.replicate M 0) u k es = 0
  | 0 => partSs_zero _ _ _
  | k + 1 => by
    rw [partSs_succ, partSs_zeros u M es k]
    have : (List.replicate M (0 : Int)).getD k 0 = 0 := by
      by_cases h : k < M
      · simp [List.getD, h]
      · simp [List.getD, List.getElem?_eq_none (show (List.replicate M (0:Int)).length ≤ k by simp; omega)]
    rw [this]
    simp
theorem setF_nil (f : Nat → Int) (M : Nat) (es : List (Int × Int)) : setF f M es [] = f := by funext u; rw [setF, setL_nil, partSs_zeros, Int.add_zero]
theorem setF_snoc (f : Nat → Int) (M v : Nat) (es : List (Int × Int)) (l : List Int) (hv : v < M) (h : ¬ (v : Int) ∈ l) : setF f M es (l ++ [(v : Int)]) = fireF (setF f M es l) (v : Int) 1 es := by
  funext u
  have h0 : (setL M l).getD v 0 = 0 := by simp [List.getD, setL_at _ hv, h]
  rw [setF, setL_snoc, partSs_set _ u v es h0 (by rw [setL_len]; exact hv) M, if_pos hv, fireF, setF]
  omega
theorem setF_all {M : Nat} {es : List (Int × Int)} (d l : List Int) (h : ∀ e ∈ es, 0 ≤ e.1 ∧ e.1 < e.2 ∧ e.2 < (M : Int)) :
    chipsOf M (setF (fun u => d.getD u 0) M es l) = firedB M es d (setL M l) := chipsOf_eq fun u _ => by rw [setF, partSs_all _ u M es h]
end Go.Proofs.Ytbojbifpaecbcaa
