/- Exact distances, and a queue that finds them: the plain math. -/
import Derived.Test.YthdpfmgljnmafabWalkL
namespace Go.Proofs.Ythdpfmgljnmafab
open Go.RowKit

/-- k is the distance of u from v -/
def IsDist (es : List (Int × Int)) (v u : Int) (k : Nat) : Prop := Near es v k u ∧ ∀ k', k' < k → ¬ Near es v k' u
theorem IsDist.same {es : List (Int × Int)} {v u : Int} {j k : Nat} (h : IsDist es v u j) (g : IsDist es v u k) : j = k := by
  rcases Nat.lt_trichotomy j k with l | l | l
  · exact absurd h.1 (g.2 j l)
  · exact l
  · exact absurd g.1 (h.2 k l)
theorem least_near {es : List (Int × Int)} {v u : Int} : ∀ k, Near es v k u → ∃ m, IsDist es v u m := by
  intro k
  induction k using Nat.strongRecOn with
  | ind k ih =>
    intro h
    rcases Classical.em (∃ j, j < k ∧ Near es v j u) with ⟨j, hj, hn⟩ | hno
    · exact ih j hj hn
    · exact ⟨k, h, fun j hj hn => hno ⟨j, hj, hn⟩⟩
theorem Near.trans {es : List (Int × Int)} {a b c : Int} {j k : Nat} (h : Near es a j b) (g : Near es b k c) : Near es a (j + k) c := by
  induction g with
  | start => exact h
  | stay _ ih => exact ih.stay
  | step _ ht ih => exact .step ih ht
theorem Near.symm {es : List (Int × Int)} {a b : Int} {k : Nat} (h : Near es a k b) : Near es b k a := by
  induction h with
  | start => exact .start
  | stay _ ih => exact ih.stay
  | step _ ht ih =>
    have h1 : Near es _ 1 _ := .step .start ht.symm
    have := h1.trans ih
    rwa [Nat.add_comm] at this
theorem Conn.from_ {N : Int} {es : List (Int × Int)} (h : Conn N es) {v u : Int} (hv : 0 ≤ v ∧ v < N) (hu : 0 ≤ u ∧ u < N) : ∃ k, Near es v k u := by
  obtain ⟨i, hi⟩ := h v hv.1 hv.2
  obtain ⟨j, hj⟩ := h u hu.1 hu.2
  exact ⟨_, hi.symm.trans hj⟩
/-- the distance, where there is a way -/
noncomputable def dist (es : List (Int × Int)) (v u : Int) : Nat := open Classical in if h : ∃ k, IsDist es v u k then Classical.choose h else 0
theorem dist_eq {es : List (Int × Int)} {v u : Int} {k : Nat} (h : IsDist es v u k) : dist es v u = k := by
  have hx : ∃ k, IsDist es v u k := ⟨k, h⟩
  unfold dist
  rw [dif_pos hx]
  exact (Classical.choose_spec hx).same h
section
variable {N : Int} {es : List (Int × Int)} {v : Int}
theorem dist_ok (hc : Conn N es) (hv : 0 ≤ v ∧ v < N) {u : Int} (hu : 0 ≤ u ∧ u < N) : IsDist es v u (dist es v u) := by
  obtain ⟨k, hk⟩ := hc.from_ hv hu
  obtain ⟨m, hm⟩ := least_near k hk
  rw [dist_eq hm]
  exact hm
theorem dist_self : dist es v v = 0 := dist_eq ⟨.start, fun _ h => absurd h (by omega)⟩
theorem dist_zero (hc : Conn N es) (hv : 0 ≤ v ∧ v < N) {u : Int} (hu : 0 ≤ u ∧ u < N) (h : dist es v u = 0) : u = v := by
  have := (dist_ok hc hv hu).1
  rw [h] at this
  exact near_zero this
theorem dist_step (hc : Conn N es) (hv : 0 ≤ v ∧ v < N) {a b : Int} (ha : 0 ≤ a ∧ a < N) (hb : 0 ≤ b ∧ b < N) (ht : Touch es a b) : dist es v b ≤ dist es v a + 1 := by
  rcases Nat.lt_or_ge (dist es v a + 1) (dist es v b) with h | h
  · exact absurd (.step (dist_ok hc hv ha).1 ht) ((dist_ok hc hv hb).2 _ h)
  · exact h
theorem dist_pred (hE : edgesB N es = true) (hc : Conn N es) (hv : 0 ≤ v ∧ v < N) {u : Int} (hu : 0 ≤ u ∧ u < N) {k : Nat} (h : dist es v u = k + 1) : ∃ z, (0 ≤ z ∧ z < N) ∧ Touch es z u ∧ dist es v z = k := by
  have hd := dist_ok hc hv hu
  rw [h] at hd
  obtain ⟨h1, h2⟩ := hd
  cases h1 with
  | stay g => exact absurd g (h2 k (by omega))
  | step g ht =>
    rename_i a
    have ha := touch_in hE ht.symm
    refine ⟨a, ha, ht, ?_⟩
    have h3 := dist_step hc hv ha hu ht
    rcases Nat.lt_or_ge k (dist es v a) with l | l
    · exact absurd g ((dist_ok hc hv ha).2 k l)
    · omega

/-- the queue, at its place k -/
structure BQ (N : Int) (es : List (Int × Int)) (v : Int) (q : List Int) (k : Nat) : Prop where
  head : q[0]? = some v
  nodup : q.Nodup
  bound : ∀ x ∈ q, 0 ≤ x ∧ x < N
  mono : ∀ (i j : Nat) (x y : Int), i ≤ j → q[i]? = some x → q[j]? = some y → dist es v x ≤ dist es v y
  top : ∀ x, q[k]? = some x → ∀ y ∈ q, dist es v y ≤ dist es v x + 1
  done : ∀ (j : Nat) (x : Int), j < k → q[j]? = some x → ∀ b, Touch es x b → b ∈ q
  low : ∀ x, q[k]? = some x → ∀ u, 0 ≤ u → u < N → dist es v u < dist es v x → ∃ i, i < k ∧ q[i]? = some u
theorem BQ.start (hv : 0 ≤ v ∧ v < N) : BQ N es v [v] 0 where
  head := rfl
  nodup := by simp
  bound := fun x hx => by simp at hx; subst hx; exact hv
  mono := fun i j x y _ hx hy => by
    have h1 : x ∈ [v] := List.mem_of_getElem? hx
    have h2 : y ∈ [v] := List.mem_of_getElem? hy
    simp at h1 h2
    rw [h1, h2]
    exact Nat.le_refl _
  top := fun x hx y hy => by
    have h1 : x ∈ [v] := List.mem_of_getElem? hx
    simp at h1 hy
    rw [h1, hy]
    omega
  done := fun j x h => absurd h (by omega)
  low := fun x hx u _ _ h => by
    have h1 : x ∈ [v] := List.mem_of_getElem? hx
    simp at h1
    rw [h1, dist_self] at h
    omega
theorem BQ.vin {q : List Int} {k : Nat} (h : BQ N es v q k) : v ∈ q := List.mem_of_getElem? h.head
theorem BQ.new {q : List Int} {k : Nat} (h : BQ N es v q k) (hE : edgesB N es = true) (hc : Conn N es) (hv : 0 ≤ v ∧ v < N) {x y : Int} (hx : q[k]? = some x) (ht : Touch es x y) (hy : y ∉ q) : dist es v y = dist es v x + 1 := by
  have hxr := h.bound x (List.mem_of_getElem? hx)
  have hyr := touch_in hE ht
  have h1 := dist_step hc hv hxr hyr ht
  rcases Nat.lt_or_ge (dist es v x) (dist es v y) with l | l
  · omega
  · exfalso
    cases hd : dist es v y with
    | zero => exact hy ((dist_zero hc hv hyr hd) ▸ h.vin)
    | succ m =>
      obtain ⟨z, hz, htz, hdz⟩ := dist_pred hE hc hv hyr hd
      obtain ⟨i, hi, hqi⟩ := h.low x hx z hz.1 hz.2 (by omega)
      exact hy (h.done i z hi hqi y htz)
theorem BQ.push {q : List Int} {k : Nat} (h : BQ N es v q k) (hE : edgesB N es = true) (hc : Conn N es) (hv : 0 ≤ v ∧ v < N) {x y : Int} (hx : q[k]? = some x) (ht : Touch es x y) (hy : y ∉ q) : BQ N es v (q ++ [y]) k := by
  have hk : k < q.length := (List.getElem?_eq_some_iff.1 hx).1
  have hd := h.new hE hc hv hx ht hy
  have old : ∀ (i : Nat) (z : Int), i < q.length → ((q ++ [y])[i]? = some z ↔ q[i]? = some z) := fun i z hi => by rw [List.getElem?_append_left hi]
  have hin : ∀ z, z ∈ q ++ [y] → z ∈ q ∨ z = y := fun z hz => by simpa using hz
  have atEnd : ∀ (j : Nat) (z : Int), q.length ≤ j → (q ++ [y])[j]? = some z → z = y := fun j z hj hz => by
    rw [List.getElem?_append_right hj] at hz
    have := List.mem_of_getElem? hz
    simpa using this
  have hx2 : ∀ z, (q ++ [y])[k]? = some z → z = x := fun z hz => by
    rw [old k z hk, hx] at hz
    exact (Option.some.inj hz).symm
  refine ⟨by rw [List.getElem?_append_left (by omega)]; exact h.head, ?_, fun z hz => ?_, fun i j a b hij ha hb => ?_, fun z hz w hw => ?_, fun j z hj hz b hb => ?_, fun z hz u h0 h1 hl => ?_⟩
  · rw [List.nodup_append]
    exact ⟨h.nodup, by simp, fun a ha c hcc => by simp at hcc; subst hcc; rintro rfl; exact hy ha⟩
  · rcases hin z hz with g | g
    · exact h.bound z g
    · subst g; exact touch_in hE ht
  · rcases Nat.lt_or_ge j q.length with l | l
    · exact h.mono i j a b hij ((old i a (by omega)).1 ha) ((old j b l).1 hb)
    · have e := atEnd j b l hb
      subst e
      rcases hin a (List.mem_of_getElem? ha) with g | g
      · rw [hd]; exact h.top x hx a g
      · rw [g]; exact Nat.le_refl _
  · have e := hx2 z hz
    subst e
    rcases hin w hw with g | g
    · exact h.top z hx w g
    · subst g; omega
  · have := h.done j z hj ((old j z (by omega)).1 hz) b hb
    simp [this]
  · have e := hx2 z hz
    subst e
    obtain ⟨i, hi, hq⟩ := h.low z hx u h0 h1 hl
    exact ⟨i, hi, (old i u (by omega)).2 hq⟩
theorem BQ.next {q : List Int} {k : Nat} (h : BQ N es v q k) (hE : edgesB N es = true) (hc : Conn N es) (hv : 0 ≤ v ∧ v < N) {x : Int} (hx : q[k]? = some x) (hs : ∀ b, Touch es x b → b ∈ q) : BQ N es v q (k + 1) := by
  have hdone : ∀ (j : Nat) (z : Int), j < k + 1 → q[j]? = some z → ∀ b, Touch es z b → b ∈ q := fun j z hj hz b hb => by
    rcases Nat.lt_or_ge j k with l | l
    · exact h.done j z l hz b hb
    · have : j = k := by omega
      subst this
      rw [hx] at hz
      exact hs b ((Option.some.inj hz) ▸ hb)
  refine ⟨h.head, h.nodup, h.bound, h.mono, fun z hz y hy => ?_, hdone, fun z hz u h0 h1 hl => ?_⟩
  · have h2 := h.top x hx y hy
    have h3 := h.mono k (k + 1) x z (by omega) hx hz
    omega
  · have h2 := h.top x hx z (List.mem_of_getElem? hz)
    rcases Nat.lt_or_ge (dist es v u) (dist es v x) with l | l
    · obtain ⟨i, hi, hq⟩ := h.low x hx u h0 h1 l
      exact ⟨i, by omega, hq⟩
    · have hux : dist es v u = dist es v x := by omega
      have hmem : u ∈ q := by
        cases hd : dist es v u with
        | zero => rw [dist_zero hc hv ⟨h0, h1⟩ hd]; exact h.vin
        | succ m =>
          obtain ⟨a, ha, hta, hda⟩ := dist_pred hE hc hv ⟨h0, h1⟩ hd
          obtain ⟨i, hi, hqi⟩ := h.low x hx a ha.1 ha.2 (by omega)
          exact h.done i a hi hqi u hta
      obtain ⟨j, hj⟩ := List.getElem?_of_mem hmem
      rcases Nat.lt_or_ge j (k + 1) with g | g
      · exact ⟨j, g, hj⟩
      · have := h.mono (k + 1) j z u g hz hj
        omega
theorem BQ.full {q : List Int} (h : BQ N es v q q.length) (hc : Conn N es) (hv : 0 ≤ v ∧ v < N) {u : Int} (hu : 0 ≤ u ∧ u < N) : u ∈ q := by
  obtain ⟨k, hk⟩ := hc.from_ hv hu
  clear hu
  induction hk with
  | start => exact h.vin
  | stay _ ih => exact ih
  | step _ ht ih =>
    obtain ⟨j, hj⟩ := List.getElem?_of_mem ih
    exact h.done j _ (List.getElem?_eq_some_iff.1 hj).1 hj _ ht
theorem BQ.len {q : List Int} {k : Nat} (h : BQ N es v q k) : (q.length : Int) ≤ N := by
  have := nodup_len q (upTo N.toNat) h.nodup fun x hx => mem_upTo.2 (by have := h.bound x hx; omega)
  rw [len_upTo] at this
  have := h.bound v h.vin
  omega
end
/-- the distances from v, in a list -/
noncomputable def dists (M : Nat) (es : List (Int × Int)) (v : Int) : List Int := (List.range M).map fun (u : Nat) => (dist es v u : Int)
theorem dists_len (M : Nat) (es : List (Int × Int)) (v : Int) : (dists M es v).length = M := by simp [dists]
theorem dists_of {M : Nat} {es : List (Int × Int)} {v : Int} {ds : List Int} (hl : ds.length = M) (h : ∀ u : Nat, u < M → ds[u]? = some (dist es v u : Int)) : ds = dists M es v := by
  apply List.ext_getElem?
  intro u
  rcases Nat.lt_or_ge u M with l | l
  · rw [h u l]
    simp [dists, l]
  · rw [List.getElem?_eq_none (by omega), List.getElem?_eq_none (by rw [dists_len]; omega)]
theorem DistOk.dists {M : Nat} {es : List (Int × Int)} {v : Int} {ds : List Int} (h : DistOk M es v ds) (hc : Conn M es) (hv : 0 ≤ v ∧ v < M) : ds = dists M es v := by
  refine dists_of h.len fun u hu => ?_
  obtain ⟨d, hd, h1, h2⟩ := h.near u hu (hc.from_ hv ⟨by omega, by omega⟩)
  rw [hd, dist_eq ⟨h1, h2⟩]
end Go.Proofs.Ythdpfmgljnmafab
