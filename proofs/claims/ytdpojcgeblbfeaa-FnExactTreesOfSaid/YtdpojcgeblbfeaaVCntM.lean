/- As many parking functions as spanning trees, whatever the sink, and as the determinant says. -/
import Derived.Test.YtdpojcgeblbfeaaVBP
import Derived.Test.YtdpojcgeblbfeaaVAllM
import Derived.Test.YtdpojcgeblbfeaaVTreP
import Derived.Test.YtdpojcgeblbfeaaVBU
set_option linter.all false
namespace Go.Proofs.Ytdpojcgeblbfeaa
open Go.RowKit

noncomputable def treesL (M : Nat) (es : List (Int × Int)) : List (List Int) := ((setsB es.length (M - 1)).map cI).filter fun s => connB (M : Int) (partL es s)
theorem conn_iff {N : Int} {L : List (Int × Int)} : connB N L = true ↔ Conn N L := by
  constructor
  · intro h
    apply Classical.byContradiction
    intro hn
    rw [connB_f hn] at h
    cases h
  · exact connB_t
theorem treesL_mem {M : Nat} {es : List (Int × Int)} {x : List Int} : x ∈ treesL M es ↔ AscP es.length (M - 1) x ∧ Conn (M : Int) (partL es x) := by
  unfold treesL
  obtain ⟨h1, h2, -⟩ := sets_asc es.length (M - 1)
  rw [List.mem_filter, List.mem_map, conn_iff]
  constructor
  · rintro ⟨⟨s, hs, rfl⟩, h⟩
    exact ⟨h1 s hs, h⟩
  · rintro ⟨h, hc⟩
    obtain ⟨s, hs, e⟩ := h2 x h
    exact ⟨⟨s, hs, e.symm⟩, hc⟩
theorem treesL_sorted (M : Nat) (es : List (Int × Int)) : (treesL M es).Pairwise fun a b => lessL a b = true := (sets_asc es.length (M - 1)).2.2.filter _
theorem sorted_nodup {L : List (List Int)} (h : L.Pairwise fun a b => lessL a b = true) : L.Nodup := h.imp fun {a b} hab e => by
  subst e
  rw [lessL_irrefl] at hab
  cases hab
theorem inj_len {f : List Int → List Int} : ∀ {l m : List (List Int)}, l.Nodup → (∀ a ∈ l, f a ∈ m) → (∀ a ∈ l, ∀ b ∈ l, f a = f b → a = b) → l.length ≤ m.length
  | [], _, _, _, _ => Nat.zero_le _
  | a :: l, m, hd, hf, hi => by
    rw [List.nodup_cons] at hd
    have ha := hf a (by simp)
    have h1 := inj_len (f := f) (l := l) (m := m.erase (f a)) hd.2 (fun b hb => (List.mem_erase_of_ne (fun e => hd.1 (by
      rw [hi a (by simp) b (by simp [hb]) e.symm]
      exact hb))).2 (hf b (by simp [hb]))) fun b hb c hc => hi b (by simp [hb]) c (by simp [hc])
    have h2 := List.length_erase_of_mem ha
    have h3 := List.length_pos_of_mem ha
    rw [List.length_cons]
    omega
section
variable {M k : Nat} {es : List (Int × Int)} {x : List Int}
theorem parks_facts (hk : k < M) (h : x ∈ parksL M k es) : x.length = M ∧ x.getD k 0 = -1 ∧ (∀ u, u < M → u ≠ k → 0 ≤ x.getD u 0) ∧ (burntL M es x (k : Int)).length = M := by
  obtain ⟨r, hr, rfl⟩ := parks_mem.1 h
  obtain ⟨h1, h2, h3⟩ := red_mem.1 hr
  refine ⟨by rw [List.length_set, h1], by rw [set_get (by omega), if_pos rfl], fun u hu hne => ?_, ?_⟩
  · rw [set_get (by omega), if_neg hne]
    exact (h3 u hu).1
  · have h4 : (burntL M es r (k : Int)).length = M := by simpa [burnsB] using h2
    unfold burntL
    rw [burnL_off (d := r.set k (-1)) (d' := r) (q := k) (fun u hu hne => by rw [set_get (by omega), if_neg hne]) M [(k : Int)] (by simp)]
    exact h4
theorem parks_of (hes : ∀ e ∈ es, 0 ≤ e.1 ∧ e.1 < e.2 ∧ e.2 < (M : Int)) (hk : k < M) (hl : x.length = M) (hz : x.getD k 0 = -1) (hp : ∀ u, u < M → u ≠ k → 0 ≤ x.getD u 0) (hb : (burntL M es x (k : Int)).length = M) : x ∈ parksL M k es := by
  have hlim := burn_lim hes hk hb
  have hoff : ∀ u, u < M → u ≠ k → (x.set k 0).getD u 0 = x.getD u 0 := fun u hu hne => by rw [set_get (by omega), if_neg hne]
  refine parks_mem.2 ⟨x.set k 0, red_mem.2 ⟨by rw [List.length_set, hl], ?_, fun u hu => ?_⟩, ?_⟩
  · have h4 : (burntL M es (x.set k 0) (k : Int)).length = M := by
      unfold burntL
      rw [burnL_off (d := x.set k 0) (d' := x) (q := k) hoff M [(k : Int)] (by simp)]
      exact hb
    simp [burnsB, h4]
  · rw [set_get (by omega)]
    unfold limV
    by_cases e : u = k
    · rw [if_pos e, if_pos e]; omega
    · rw [if_neg e, if_neg e]
      have h1 := hlim u hu e
      have h2 := hp u hu e
      omega
  · refine list_same (by simp) fun u hu => ?_
    rw [set_get (by simp; omega), set_get (by omega)]
    split
    · next e => rw [e, hz]
    · rfl
theorem parks_trees (hes : ∀ e ∈ es, 0 ≤ e.1 ∧ e.1 < e.2 ∧ e.2 < (M : Int)) (hk : k < M) : (parksL M k es).length = (treesL M es).length := by
  apply Nat.le_antisymm
  · refine inj_len (f := fun x => outL es (decF x) k) (sorted_nodup (parks_sorted hk)) (fun x hx => ?_) fun x hx y hy he => ?_
    · obtain ⟨-, -, h3, h4⟩ := parks_facts hk hx
      exact treesL_mem.2 (park_tree hes hk h3 h4)
    · obtain ⟨a1, a2, a3, a4⟩ := parks_facts hk hx
      obtain ⟨b1, b2, b3, b4⟩ := parks_facts hk hy
      rw [← park_there hes hk a1 a2 a3 a4, ← park_there hes hk b1 b2 b3 b4]
      have he : outL es (decF x) k = outL es (decF y) k := he
      rw [he]
  · refine inj_len (f := fun T => lostL M es (decT (natT T)) k) (sorted_nodup (treesL_sorted M es)) (fun T hT => ?_) fun S hS T hT he => ?_
    · obtain ⟨h1, h2⟩ := treesL_mem.1 hT
      exact parks_of hes hk (lostL_len _ _ _ _) (by rw [lostL_get hk, if_pos rfl]) (fun u hu hne => by rw [lostL_get hu, if_neg hne]; exact (lost_le u).1) (tree_park hes hk h1 h2).2
    · obtain ⟨a1, a2⟩ := treesL_mem.1 hS
      obtain ⟨b1, b2⟩ := treesL_mem.1 hT
      have he : lostL M es (decT (natT S)) k = lostL M es (decT (natT T)) k := he
      rw [← tree_there hes hk a1 a2, ← tree_there hes hk b1 b2, he]
end
section
variable {m k : Nat} {es : List (Int × Int)}
theorem redL_det (hm : m ≤ 5) (hm0 : 0 < m) (hk : k ≤ m) (hn : es.length ≤ 12) (hc : Cut (m + 1) es) (hes : ∀ e ∈ es, 0 ≤ e.1 ∧ e.1 < e.2 ∧ e.2 < ((m + 1 : Nat) : Int)) (hex : ∀ x : List Int, x.length = m + 1 → (∀ u, -100 ≤ x.getD u 0 ∧ x.getD u 0 ≤ 100) → ∃ f, IsRed (m + 1) es x k f) :
    (redL (m + 1) k es).length = gSets m (redA k es) m := by
  refine red_count hm hm0 hk hn hc hes hex (fun x hx => ?_) ?_ fun x hx hle => ?_
  · obtain ⟨h1, h2, h3⟩ := red_mem.1 hx
    refine ⟨⟨h1, fun u hu _ => (h3 u hu).1, by simpa [burnsB] using h2⟩, fun u => ?_⟩
    by_cases hu : u < m + 1
    · have := h3 u hu
      have := lim_le (k := k) (fun e he => (hes e he).2.1) hn u
      omega
    · rw [List.getD, List.getElem?_eq_none (by omega)]
      simp
  · refine (allG_nodup (m + 1) []).imp_of_mem fun {x y} hx hy hne => ?_
    obtain ⟨a1, a2⟩ := red_zero (show k < m + 1 by omega) hx
    obtain ⟨b1, b2⟩ := red_zero (show k < m + 1 by omega) hy
    apply Classical.byContradiction
    intro hno
    apply hne
    refine list_same (by rw [a1, b1]) fun u hu => ?_
    apply Classical.byContradiction
    intro hd
    refine hno ⟨u, by omega, fun e => ?_, hd⟩
    subst e
    exact hd (by rw [a2, b2])
  · have hk1 : k < m + 1 := by omega
    have hlim := burn_lim hes hk1 hx.all
    have hoff : ∀ u, u < m + 1 → u ≠ k → (x.set k 0).getD u 0 = x.getD u 0 := fun u hu hne => by rw [set_get (by rw [hx.len]; omega), if_neg hne]
    refine ⟨x.set k 0, red_mem.2 ⟨by rw [List.length_set, hx.len], ?_, fun u hu => ?_⟩, hoff⟩
    · have h4 := (hx.off (y := x.set k 0) (by rw [List.length_set, hx.len]) hoff).all
      simp [burnsB, h4]
    · rw [set_get (by rw [hx.len]; omega)]
      unfold limV
      by_cases e : u = k
      · rw [if_pos e, if_pos e]; omega
      · rw [if_neg e, if_neg e]
        have h1 := hlim u hu e
        have h2 := hx.pos u hu e
        omega
end
theorem trees_count {m k : Nat} {es : List (Int × Int)} (hm : m ≤ 5) (hm0 : 0 < m) (hk : k ≤ m) (hn : es.length ≤ 12) (hc : Cut (m + 1) es) (hes : ∀ e ∈ es, 0 ≤ e.1 ∧ e.1 < e.2 ∧ e.2 < ((m + 1 : Nat) : Int)) (hex : ∀ x : List Int, x.length = m + 1 → (∀ u, -100 ≤ x.getD u 0 ∧ x.getD u 0 ≤ 100) → ∃ f, IsRed (m + 1) es x 0 f) :
    ((pilesL (m + 1) k es).length : Int) = dt m (redA 0 es) ∧ ((parksL (m + 1) k es).length : Int) = dt m (redA 0 es) ∧ ((treesL (m + 1) es).length : Int) = dt m (redA 0 es) ∧ 0 < dt m (redA 0 es) := by
  have h1 := redL_det hm hm0 (Nat.zero_le m) hn hc hes hex
  have h2 := parks_trees hes (show k < m + 1 by omega)
  have h3 := parks_trees hes (show 0 < m + 1 by omega)
  have h4 := piles_len (M := m + 1) (k := k) (es := es)
  have h5 := piles_len (M := m + 1) (k := 0) (es := es)
  obtain ⟨h6, h7⟩ := red_det hm (Nat.zero_le m) hc hes
  omega
end Go.Proofs.Ytdpojcgeblbfeaa
