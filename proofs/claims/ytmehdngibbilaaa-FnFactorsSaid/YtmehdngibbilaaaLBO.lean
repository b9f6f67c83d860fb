/- One text out of several: RedS RedI Trees Gcd Sets InvS InvC InvI InvJ Neg AddD. -/
import Derived.Test.YtmehdngibbilaaaLBE
import Derived.Test.YtmehdngibbilaaaLBD
import Derived.Test.YtmehdngibbilaaaLSh
import Derived.Test.YtmehdngibbilaaaLBA
import Derived.RegionTactic
import Derived.ChangeAlike
import Derived.Test.YtmehdngibbilaaaLBI
import Derived.Deep.RegionHeld3
import Derived.Laws.EntriesVeiled
/- The specification's ReducedLaplacian. -/
namespace Go.Proofs.Ytmehdngibbilaaa
open Go.RowKit

def redM (q : Nat) (L : List (List Int)) : List (List Int) := (L.eraseIdx q).map fun r => r.eraseIdx q
theorem redM_len {q : Nat} {L : List (List Int)} : (redM q L).length ≤ L.length := by
  rw [redM, List.length_map, List.length_eraseIdx]
  split <;> omega
theorem own_types2 {w : World} {base base2 e1 e2 s1 s2 n1 n2 : Nat} {v1 v2 : Value} {x1 x2 : List Value} (h1 : w.ownsRow base e1 s1 v1 n1 x1) (h2 : w.ownsRow base2 e2 s2 v2 n2 x2) (hne : e1 ≠ e2) : v1.ownBlock = none ∨ v1.ownBlock ≠ v2.ownBlock :=
  own_types (ownsRow_mono h1 (Nat.zero_le _)) (ownsRow_mono h2 (Nat.zero_le _)) hne
def SSOwn2 (w : World) (b1 b2 : Nat) (v : Value) (rs : List (List Int)) : Prop :=
  ∃ vs : List Value, w.ownsRow b1 27 1 v rs.length vs ∧ ∀ (i : Nat) (r : List Int), rs[i]? = some r → ∃ u, vs[i]? = some u ∧ QOwn w b2 u r
theorem SSOwn2.one {w : World} {b1 b2 : Nat} {v : Value} {rs : List (List Int)} (h : SSOwn2 w b1 b2 v rs) (hb : b1 ≤ b2) : SSOwn w b1 v rs := by
  obtain ⟨vs, h1, h2⟩ := h
  refine ⟨vs, h1, fun i r hr => ?_⟩
  obtain ⟨u, hu, hq⟩ := h2 i r hr
  exact ⟨u, hu, ownsRow_mono hq hb⟩
theorem SSOwn2.push {w w1 : World} {b1 b2 : Nat} {v v' u : Value} {rs : List (List Int)} {r : List Int} {vs : List Value} (h1 : w.ownsRow b1 27 1 v rs.length vs) (h2 : ∀ (i : Nat) (r : List Int), rs[i]? = some r → ∃ u, vs[i]? = some u ∧ QOwn w b2 u r)
    (hr : QOwn w b2 u r) (ho : w1.ownsRow b1 27 1 v' (rs.length + 1) (vs ++ [u])) (hg : w.grownBy w1 v.ownBlock) : SSOwn2 w1 b1 b2 v' (rs ++ [r]) := by
  have keep : ∀ {x : Value} {p : List Int}, QOwn w b2 x p → QOwn w1 b2 x p := fun hq => World.ownsRow.kept hq hg (own_types2 hq h1 (by decide))
  have hl : vs.length = rs.length := by have := h1.1; omega
  refine ⟨vs ++ [u], by simpa using ho, fun i p hp => ?_⟩
  rcases Nat.lt_or_ge i rs.length with l | l
  · rw [List.getElem?_append_left l] at hp
    obtain ⟨x, hx, hq⟩ := h2 i p hp
    exact ⟨x, by rw [List.getElem?_append_left (by omega)]; exact hx, keep hq⟩
  · rw [List.getElem?_append_right l] at hp
    have hi : i - rs.length = 0 := by
      have := (List.getElem?_eq_some_iff.1 hp).1
      simp at this
      omega
    rw [hi] at hp
    simp only [List.getElem?_cons_zero, Option.some.injEq] at hp
    subst hp
    exact ⟨u, by rw [List.getElem?_append_right (by omega), show i - vs.length = 0 by omega]; rfl, keep hr⟩
theorem SSOwn2.apart {w : World} {b1 b2 gL x o n c : Nat} {v : Value} {rs : List (List Int)} (h : SSOwn2 w b1 b2 v rs) (hn : 0 < rs.length) (hc : w.cell? ⟨gL, 0, none⟩ = some (.slice (some ⟨x, o, none⟩) n c)) (hx : x < b2) : v.ownBlock ≠ some gL := by
  obtain ⟨vs, h1, h2⟩ := h
  obtain ⟨u, hu, hq⟩ := h2 0 _ (List.getElem?_eq_getElem hn)
  intro e
  have := h1.cells e 0 u hu
  rw [Addr.add_lit, Nat.add_zero, hc] at this
  injection this with this
  subst this
  have := (World.ownsRow.lt hq x rfl).1
  omega
theorem SSOwn.at_ {w : World} {base : Nat} {v : Value} {rs : List (List Int)} {a : Nat} {r : List Int} (h : SSOwn w base v rs) (hr : rs[a]? = some r) (hz : 0 < r.length) :
    ∃ (g cap b c : Nat), v = .slice (some ⟨g, 0, none⟩) rs.length cap ∧ base ≤ g ∧ g < w.heap.size ∧ w.cell? ⟨g, a, none⟩ = some (.slice (some ⟨b, 0, none⟩) r.length c) ∧ r.length ≤ c ∧ base ≤ b ∧ b < w.heap.size ∧ ∀ (i : Nat) (x : Int), r[i]? = some x → w.cell? ⟨b, i, none⟩ = some (.int .i64 x) := by
  obtain ⟨vs, h1, h2⟩ := h
  obtain ⟨u, hu, hq⟩ := h2 a r hr
  have hal : a < rs.length := (List.getElem?_eq_some_iff.1 hr).1
  rcases h1.2 with ⟨_, e0⟩ | ⟨g, cap, cur, e, hb, hg, hnc, _, hcs, htk⟩
  · omega
  · have hob : v.ownBlock = some g := by rw [e]; rfl
    have hc := h1.cells hob a u hu
    rw [Addr.add_lit, Nat.zero_add] at hc
    rcases hq.2 with ⟨_, e0⟩ | ⟨b, c, cur2, e2, hb2, hg2, hnc2, _, _, _⟩
    · omega
    · refine ⟨g, cap, b, c, e, hb, (h1.lt g hob).2, by rw [hc, e2], hnc2, hb2, (World.ownsRow.lt hq b (by rw [e2]; rfl)).2, fun i x hx => ?_⟩
      have := World.ownsRow.cells hq (by rw [e2]; rfl) i (.int .i64 x) (by simp [intCells, hx])
      rwa [Addr.add_lit, Nat.zero_add] at this
theorem SSOwn2.keep {w w' : World} {b1 b2 : Nat} {v : Value} {rs : List (List Int)} (h : SSOwn2 w b1 b2 v rs) (hb : Below w.heap.size w w') : SSOwn2 w' b1 b2 v rs := by
  obtain ⟨vs, h1, h2⟩ := h
  refine ⟨vs, h1.kept (row := none) ⟨hb.os, hb.tape, hb.output, hb.size, fun i hi _ => hb.block i hi⟩ (Classical.em _), fun i r hr => ?_⟩
  obtain ⟨u, hu, hq⟩ := h2 i r hr
  exact ⟨u, hu, hq.below hb⟩
theorem grown_below {W w1 : World} {B : Nat} {row : Option Nat} (hg : W.grownBy w1 row) (hB : B ≤ W.heap.size) (hr : ∀ k, row = some k → B ≤ k) : Below B W w1 :=
  ⟨hg.os, hg.tape, hg.output, hg.size, fun i hi => hg.block i (by omega) (fun e => by have := hr i e.symm; omega)⟩
theorem own_sl {w : World} {base n s : Nat} {e : TypeId} {v : Value} {xs : List Value} (h : w.ownsRow base e s v n xs) : ∃ (A : Option Addr) (m c : Nat), v = .slice A m c := by
  rcases h.2 with ⟨h1, _⟩ | ⟨g, cap, cur, h1, _⟩
  · exact ⟨none, 0, 0, h1⟩
  · exact ⟨_, n, cap, h1⟩
def SSOwnV (w : World) (base : Nat) (v : Value) (vs : List Value) (rs : List (List Int)) : Prop :=
  w.ownsRow base 27 1 v rs.length vs ∧ ∀ (i : Nat) (r : List Int), rs[i]? = some r → ∃ u, vs[i]? = some u ∧ QOwn w base u r
theorem SSOwnV.one {w : World} {base : Nat} {v : Value} {vs : List Value} {rs : List (List Int)} (h : SSOwnV w base v vs rs) : SSOwn w base v rs := ⟨vs, h.1, h.2⟩
theorem SSOwnV.keep {w w' : World} {base : Nat} {v : Value} {vs : List Value} {rs : List (List Int)} (h : SSOwnV w base v vs rs) (hb : Below w.heap.size w w') : SSOwnV w' base v vs rs := by
  obtain ⟨h1, h2⟩ := h
  refine ⟨h1.kept (row := none) ⟨hb.os, hb.tape, hb.output, hb.size, fun i hi _ => hb.block i hi⟩ (Classical.em _), fun i r hr => ?_⟩
  obtain ⟨u, hu, hq⟩ := h2 i r hr
  exact ⟨u, hu, hq.below hb⟩
theorem SSOwnV.far {w w1 : World} {base b1 n : Nat} {v out : Value} {us : List Value} {rs : List (List Int)} {xs : List Value} (h : SSOwnV w base v us rs) (ho : w.ownsRow b1 27 1 out n xs) (hne : v.ownBlock ≠ out.ownBlock) (hg : w.grownBy w1 out.ownBlock) : SSOwnV w1 base v us rs := by
  obtain ⟨h1, h2⟩ := h
  refine ⟨h1.kept hg (.inr hne), fun i r hr => ?_⟩
  obtain ⟨u, hu, hq⟩ := h2 i r hr
  exact ⟨u, hu, World.ownsRow.kept hq hg (own_types2 hq ho (by decide))⟩
noncomputable def redB (N : Int) (es : List (Int × Int)) (q : Int) : List (List Int) := if graphB N es = true ∧ vB q N = true then redM q.toNat (lapM N.toNat es) else []
theorem redB_t {N : Int} {es : List (Int × Int)} {v : Int} (h : graphB N es = true) (h2 : vB v N = true) : redB N es v = redM v.toNat (lapM N.toNat es) := by rw [redB, if_pos ⟨h, h2⟩]
theorem redB_f {N : Int} {es : List (Int × Int)} {v : Int} (h : graphB N es = false ∨ vB v N = false) : redB N es v = [] := by
  rw [redB, if_neg]
  rintro ⟨h1, h2⟩
  rcases h with h | h
  · rw [h] at h1; cases h1
  · rw [h] at h2; cases h2
theorem redB_len {N : Int} {es : List (Int × Int)} {q : Int} : (redB N es q).length ≤ 6 ∧ ∀ r ∈ redB N es q, r.length ≤ 6 := by
  unfold redB
  split
  · rename_i h
    have h1 := edgesB_lims (graphB_all h.1).1
    have h2 := redM_len (q := q.toNat) (L := lapM N.toNat es)
    rw [lapM_len] at h2
    refine ⟨by omega, fun r hr => ?_⟩
    simp only [redM, List.mem_map] at hr
    obtain ⟨r0, hr0, rfl⟩ := hr
    have h3 := List.mem_of_mem_eraseIdx hr0
    simp only [lapM, List.mem_map, List.mem_range] at h3
    obtain ⟨a, _, rfl⟩ := h3
    rw [List.length_eraseIdx]
    have := lapR_len N.toNat es a
    split <;> omega
  · exact ⟨by simp, fun r hr => by simp at hr⟩
end Go.Proofs.Ytmehdngibbilaaa

/- The program's ReducedLaplacian. -/
namespace Go.Proofs.Ytmehdngibbilaaa
open Go.RowKit Go.Sort Go.Shelf

theorem put_moves {α : Type} [Inhabited α] {enc : α → Value} (w : World) (n g : Nat) (d : Array α) : Moves g (g + 1) w (putRow enc (Sort.ahead w n) g 0 d) :=
  ⟨rfl, rfl, rfl, by rw [size_putRow]; exact Nat.le_refl _, fun i hi ho => by
    show (w.heap.modify g _)[i]? = w.heap[i]?
    rw [Array.getElem?_modify, if_neg (by omega)]⟩
theorem put_size {α : Type} [Inhabited α] {enc : α → Value} (w : World) (n g : Nat) (d : Array α) : (putRow enc (Sort.ahead w n) g 0 d).heap.size = w.heap.size := by rw [size_putRow]; rfl
theorem delI_any (G q : Nat) (r : List Int) (w : World) (hq : q < r.length) (hl : r.length ≤ 6) (hB : Blk w G 3 (intCells r).toArray) :
    Calls Try.prog 103 #[.slice (some ⟨G, 0, none⟩) r.length r.length, .int .i64 (q : Int), .int .i64 ((q : Int) + 1)] w fun e w' =>
      e = .returned (.slice (some ⟨G, 0, none⟩) (r.length - 1) r.length) ∧ Moves G (G + 1) w w' ∧ w'.heap.size = w.heap.size ∧ ∀ (j : Nat) (z : Int), (r.eraseIdx q)[j]? = some z → w'.cell? ⟨G, j, none⟩ = some (.int .i64 z) ∧ w'.frozen? ⟨G, j, none⟩ = false := by
  have hH : Holds (Value.int .i64) w G 0 r.toArray := fun j hj => by
    rw [Nat.zero_add, hB.cell]
    have hj2 : j < r.length := by simpa using hj
    exact ⟨by simp [intCells, hj2, getElem!_pos], hB.frozen _⟩
  have h := Try.slices_Delete_int G 0 r.length q (q + 1) r w hH (Nat.le_refl _) (by omega) (by omega) (by omega)
  have e1 : ((q + 1 : Nat) : Int) = (q : Int) + 1 := by omega
  have e2 : r.length - (q + 1 - q) = r.length - 1 := by omega
  rw [e1, e2] at h
  refine h.mono ?_
  rintro e w' ⟨rfl, n, rfl⟩
  refine ⟨rfl, put_moves _ _ _ _, put_size _ _ _ _, fun j z hz => ?_⟩
  have hjl : j < (r.eraseIdx q).length := (List.getElem?_eq_some_iff.1 hz).1
  have hel : (r.eraseIdx q).length = r.length - 1 := List.length_eraseIdx_of_lt hq
  have hs : (r.take q ++ r.drop (q + 1) ++ List.replicate (q + 1 - q) 0).toArray.size = r.toArray.size := by simp; omega
  have hp := holds_putRow (Value.int .i64) (Sort.ahead w n) G 0 r.toArray (r.take q ++ r.drop (q + 1) ++ List.replicate (q + 1 - q) 0).toArray hH hs j (by rw [hs]; simp; omega)
  rw [Nat.zero_add] at hp
  refine ⟨hp.1.trans ?_, hp.2⟩
  have : (r.take q ++ r.drop (q + 1) ++ List.replicate (q + 1 - q) 0)[j]? = some z := by
    rw [← List.eraseIdx_eq_take_drop_succ, List.getElem?_append_left hjl, hz]
  have hlt := (List.getElem?_eq_some_iff.1 this).1
  rw [getElem!_pos _ _ (by simpa using hlt)]
  have h2 := (List.getElem?_eq_some_iff.1 this).2
  simp only [List.getElem_toArray]
  rw [h2]
instance : Inhabited Nat := ⟨0⟩
def encR (M : Nat) (G : Nat) : Value := if G = 0 then .slice none 0 0 else .slice (some ⟨G, 0, none⟩) M M
theorem encR_one (M : Nat) : OneCell (encR M) := fun x => by unfold encR; split <;> rfl
theorem delR_any (g q M : Nat) (G : Nat → Nat) (w : World) (hq : q < M) (hl : M ≤ 6) (hG : ∀ i, i < M → G i ≠ 0) (hB : ∀ i, i < M → w.cell? ⟨g, i, none⟩ = some (.slice (some ⟨G i, 0, none⟩) M M) ∧ w.frozen? ⟨g, i, none⟩ = false) :
    Calls Try.prog 102 #[.slice (some ⟨g, 0, none⟩) M M, .int .i64 (q : Int), .int .i64 ((q : Int) + 1)] w fun e w' =>
      e = .returned (.slice (some ⟨g, 0, none⟩) (M - 1) M) ∧ Moves g (g + 1) w w' ∧ w'.heap.size = w.heap.size ∧ ∀ i, i < M - 1 → w'.cell? ⟨g, i, none⟩ = some (.slice (some ⟨G (skip q i), 0, none⟩) M M) ∧ w'.frozen? ⟨g, i, none⟩ = false := by
  obtain ⟨i1, hj, hy0, hy1, hy2⟩ := info_parts rowsInfo
  obtain ⟨d, hd⟩ : ∃ d : Array Nat, d = ((List.range M).map G).toArray := ⟨_, rfl⟩
  have hds : d.size = M := by rw [hd]; simp
  have hdi : ∀ i, i < M → d[i]! = G i := fun i hi => by rw [getElem!_pos _ _ (by omega)]; simp [hd]
  have hH : Holds (encR M) w g 0 d := fun j hj => by
    have hj2 : j < M := by omega
    rw [Nat.zero_add, hdi j hj2, encR, if_neg (hG j hj2)]
    exact hB j hj2
  have h := Try.slices_Delete_f102 (encR M) (encR_one M) 0 (fun w => by rw [encR, if_pos rfl]; kernel_rfl) i1 hj hy1 g 0 M q (q + 1) d w hH (by omega) (by omega) (by omega) (by omega)
  have e1 : ((q + 1 : Nat) : Int) = (q : Int) + 1 := by omega
  have e2 : M - (q + 1 - q) = M - 1 := by omega
  rw [e1, hds, e2] at h
  refine h.mono ?_
  rintro e w' ⟨rfl, n, rfl⟩
  refine ⟨rfl, put_moves _ _ _ _, put_size _ _ _ _, fun i hi => ?_⟩
  have hs : (d.toList.take q ++ d.toList.drop (q + 1) ++ List.replicate (q + 1 - q) 0).toArray.size = d.size := by simp; omega
  have hp := holds_putRow (encR M) (Sort.ahead w n) g 0 d (d.toList.take q ++ d.toList.drop (q + 1) ++ List.replicate (q + 1 - q) 0).toArray hH hs i (by rw [hs]; omega)
  rw [Nat.zero_add] at hp
  refine ⟨hp.1.trans ?_, hp.2⟩
  have hsk : skip q i < M := by unfold skip; split <;> omega
  have : (d.toList.take q ++ d.toList.drop (q + 1) ++ List.replicate (q + 1 - q) 0)[i]? = some (G (skip q i)) := by
    rw [← List.eraseIdx_eq_take_drop_succ, List.getElem?_append_left (by rw [List.length_eraseIdx_of_lt (by simp; omega)]; simp; omega), List.getElem?_eraseIdx]
    have hgi : ∀ k, k < M → d.toList[k]? = some (G k) := fun k hk => by rw [hd]; simp [hk]
    unfold skip at hsk ⊢
    split
    · rw [hgi _ (by omega)]
    · rw [hgi _ (by omega)]
  have hlt := (List.getElem?_eq_some_iff.1 this).1
  rw [getElem!_pos _ _ (by simpa using hlt)]
  have h2 := (List.getElem?_eq_some_iff.1 this).2
  simp only [List.getElem_toArray]
  rw [h2, encR, if_neg (hG _ hsk)]
def RedSt (w : World) (g : Nat) (G : Nat → Nat) (rs : List (List Int)) (q M k : Nat) : Prop :=
  ∀ (i : Nat) (r : List Int), rs[i]? = some r → r.length = M ∧ w.frozen? ⟨g, i, none⟩ = false ∧ w.cell? ⟨g, i, none⟩ = some (.slice (some ⟨G i, 0, none⟩) (if i < k then M - 1 else M) M) ∧
    (i < k → ∀ (j : Nat) (z : Int), (r.eraseIdx q)[j]? = some z → w.cell? ⟨G i, j, none⟩ = some (.int .i64 z) ∧ w.frozen? ⟨G i, j, none⟩ = false) ∧ (k ≤ i → Blk w (G i) 3 (intCells r).toArray)
theorem RedSt.step {w w2 : World} {g q M k : Nat} {G : Nat → Nat} {rs : List (List Int)} {r : List Int} (h : RedSt w g G rs q M k) (hr : rs[k]? = some r) (hm : Moves (G k) (G k + 1) w w2) (hg : ∀ i, i < rs.length → G i ≠ g ∧ G i < w.heap.size)
    (hgl : g < w.heap.size) (hinj : ∀ i j, i < rs.length → j < rs.length → i ≠ j → G i ≠ G j) (hc : ∀ (j : Nat) (z : Int), (r.eraseIdx q)[j]? = some z → w2.cell? ⟨G k, j, none⟩ = some (.int .i64 z) ∧ w2.frozen? ⟨G k, j, none⟩ = false) :
    RedSt (w2.setCell ⟨g, k, none⟩ (.slice (some ⟨G k, 0, none⟩) (M - 1) M)) g G rs q M (k + 1) := by
  have hk : k < rs.length := (List.getElem?_eq_some_iff.1 hr).1
  intro i s hs
  have hi : i < rs.length := (List.getElem?_eq_some_iff.1 hs).1
  obtain ⟨h1, h2, h3, h4, h5⟩ := h i s hs
  have hgk := hg k hk
  have hbg := hm.block g hgl (by omega)
  have hfg : w2.frozen? ⟨g, i, none⟩ = w.frozen? ⟨g, i, none⟩ := World.frozen?_of_block (a := ⟨g, i, none⟩) hbg
  have hcg : w2.cell? ⟨g, i, none⟩ = w.cell? ⟨g, i, none⟩ := World.cell?_of_block (a := ⟨g, i, none⟩) hbg
  refine ⟨h1, by rw [World.frozen?_setCell, hfg]; exact h2, ?_, fun hik j z hz => ?_, fun hik => ?_⟩
  · by_cases e : i = k
    · subst e
      rw [World.cell?_setCell_same (h := hcg.trans h3), if_pos (by omega)]
    · rw [World.cell?_setCell_other (h := by intro q; injection q with _ q; exact e q.symm), hcg, h3]
      by_cases hik : i < k
      · rw [if_pos hik, if_pos (by omega)]
      · rw [if_neg hik, if_neg (by omega)]
  · have hgi := hg i hi
    rw [World.cell?_setCell_other (h := by intro q; injection q with q; exact hgi.1 q.symm), World.frozen?_setCell]
    by_cases e : i = k
    · subst e
      rw [hr] at hs
      injection hs with hs
      subst hs
      exact hc j z hz
    · have hne := hinj i k hi hk e
      have hbi := hm.block (G i) hgi.2 (by omega)
      rw [World.cell?_of_block (a := ⟨G i, j, none⟩) hbi, World.frozen?_of_block (a := ⟨G i, j, none⟩) hbi]
      exact h4 (by omega) j z hz
  · have hgi := hg i hi
    have hne := hinj i k hi hk (by omega)
    exact ((h5 (by omega)).moves hm (by omega)).far (Ne.symm (fun e => hgi.1 e.symm)) _
theorem RedSt.own {w : World} {g q M base : Nat} {G : Nat → Nat} {rs : List (List Int)} (h : RedSt w g G rs q M rs.length) (hq : q < M) (hgl : g < w.heap.size) (hgb : base ≤ g) (hg : ∀ i, i < rs.length → G i ≠ g ∧ G i < w.heap.size ∧ base ≤ G i) (hinj : ∀ i j, i < rs.length → j < rs.length → i ≠ j → G i ≠ G j) :
    OwnSS w base w.heap.size (some ⟨g, 0, none⟩) (rs.map fun r => r.eraseIdx q) := fun _ => by
  refine ⟨g, 0, G, rfl, hgb, hgl, Nat.le_refl _, fun i r hr => ?_, fun i j hi hj hne => hinj i j (by simpa using hi) (by simpa using hj) hne⟩
  rw [List.getElem?_map, Option.map_eq_some_iff] at hr
  obtain ⟨s, hs, rfl⟩ := hr
  have hi : i < rs.length := (List.getElem?_eq_some_iff.1 hs).1
  obtain ⟨h1, h2, h3, h4, h5⟩ := h i s hs
  have hgi := hg i hi
  refine ⟨some ⟨G i, 0, none⟩, M, ?_, fun _ => ⟨0, rfl, hgi.2.2, hgi.2.1, fun j z hz => ?_⟩, hgi.1⟩
  · rw [Nat.zero_add, h3, if_pos hi, List.length_eraseIdx_of_lt (by omega), h1]
  · rw [Nat.zero_add]
    exact h4 hi j z hz
def GivesSSC (w : World) (rs : List (List Int)) (e : Ending) (w' : World) : Prop :=
  ∃ (A : Option Addr) (c : Nat), e = .returned (.slice A rs.length c) ∧ rs.length ≤ c ∧ OwnSS w' w.heap.size w'.heap.size A rs ∧ Below w.heap.size w w'
theorem GivesSSC.plain {w w' : World} {rs : List (List Int)} {e : Ending} (h : GivesSSC w rs e w') : GivesSS w rs e w' := by
  obtain ⟨A, c, h1, -, h2⟩ := h
  exact ⟨A, c, h1, h2⟩
set_option maxRecDepth 100000 in
set_option maxHeartbeats 4000000 in
theorem implRed_yes (M q : Nat) (A : Option Addr) (c : Nat) (es : List (Int × Int)) (w : World) (hB : graphB M es = true) (hq : q < M) (hE : EdgeS w w.heap.size A es) :
    Calls Try.prog 56 #[.agg #[.int .i64 (M : Int), .slice A es.length c], .int .i64 (q : Int)] w (GivesSSC w (redM q (lapM M es))) := by
  obtain ⟨hN1, hN6, hn12⟩ := edgesB_lims (graphB_all hB).1
  have HE := Lib.hid hE
  have hvb : vB (q : Int) (M : Int) = true := vB_t (by omega)
  have HG := fun w h => Lib.hid (implGraphOk (M : Int) A c es w (by omega) h)
  rw [hB] at HG
  have HL := fun w h => Lib.hid (implLap_yes M A c es w hB h)
  have HLR := Lib.hid (fun a h => lapM_at (M := M) es (a := a) h)
  have HRL := Lib.hid (fun a => lapR_len M es a)
  have HLL := Lib.hid (lapM_len M es)
  obtain ⟨L, hL⟩ : ∃ L, L = lapM M es := ⟨_, rfl⟩
  rw [← hL] at HL HLR HLL ⊢
  clear hE hB hL
  have hb0 : Below w.heap.size w (w.alloc (Obj.cells #[.int .i64 (M : Int), .slice A es.length c] 25)) := (Below.refl _ _).alloc (Nat.le_refl _) _
  go_enter Try.func56, Try.ntmps56
  go_wp2_with fail
  refine (HG _ (HE.out.up_ hb0)).out.mono ?_
  rintro e w1 ⟨rfl, hb1⟩
  have hbb : Below w.heap.size w w1 := hb0.trans (hb1.mono hb0.size)
  have hx1 := (Blk.new w 25 #[.int .i64 (M : Int), .slice A es.length c]).below hb1 (by simp)
  have hlx := hx1.lt
  have k0 : w1.cell? ⟨w.heap.size, 0, none⟩ = some (.int .i64 (M : Int)) := by rw [hx1.cell]; rfl
  have k1 : w1.cell? ⟨w.heap.size, 1, none⟩ = some (.slice A es.length c) := by rw [hx1.cell]; rfl
  have HX1 := Lib.hid hx1
  clear hb0 hb1 hx1
  go_wp2_with fail
  refine (hasVertex_any _ _ _ _ ⟨_, _, _, rfl⟩).mono ?_
  rintro e w2 ⟨rfl, hb2⟩
  have hx2 := HX1.out.below hb2 hlx
  have j0 : w2.cell? ⟨w.heap.size, 0, none⟩ = some (.int .i64 (M : Int)) := by rw [hx2.cell]; rfl
  have j1 : w2.cell? ⟨w.heap.size, 1, none⟩ = some (.slice A es.length c) := by rw [hx2.cell]; rfl
  have hb3 : Below w.heap.size w w2 := hbb.trans (hb2.mono hbb.size)
  clear k0 k1 hbb hb2 hx2 HX1
  go_wp2_with fail
  refine (HL _ (HE.out.up_ hb3)).out.mono ?_
  rintro e w3 ⟨g, rfl, hgw, hrows, hb4⟩
  have hb5 : Below w.heap.size w w3 := hb3.trans (hb4.mono hb3.size)
  obtain ⟨vals, G, r1, r2, r3, r4⟩ := hrows
  have hgl := r1.lt
  have hw2 := hb3.size
  have hrow : ∀ i r, L[i]? = some r → w3.cell? ⟨g, i, none⟩ = some (.slice (some ⟨G i, 0, none⟩) M M) ∧ g < G i ∧ G i < w3.heap.size ∧ Blk w3 (G i) 3 (intCells r).toArray ∧ r.length = M := fun i r hr => by
    have hi : i < M := by have := (List.getElem?_eq_some_iff.1 hr).1; have := HLL.out; omega
    have hrl : r.length = M := by have h := HLR.out i hi; rw [hr] at h; injection h with h; rw [h]; exact HRL.out i
    obtain ⟨q1, q2, q3, q4⟩ := r3 i r hi hr
    refine ⟨?_, q2, q3, q4, hrl⟩
    rw [r1.cell, List.getElem?_toArray, List.getElem?_append_left (by omega), q1, hrl]
  have hat : ∀ i, i < M → ∃ r, L[i]? = some r := fun i hi => ⟨_, HLR.out i hi⟩
  have HDR := Lib.hid (delR_any g q M G w3 hq (by omega) (fun i hi => by obtain ⟨r, hr⟩ := hat i hi; have := (hrow i r hr).2.1; omega) (fun i hi => by obtain ⟨r, hr⟩ := hat i hi; exact ⟨(hrow i r hr).1, r1.frozen _⟩))
  have HROW := Lib.hid hrow
  have HAT := Lib.hid hat
  have HINJ := Lib.hid r4
  have HB5 := Lib.hid hb5
  clear hrow hat r1 r2 r3 r4 hb3 hb4 hb5 j0 j1
  go_wp2_with fail
  refine HDR.out.mono ?_
  rintro e w4 ⟨rfl, hm4, hs4, hc4⟩
  have hsk : ∀ i, i < M - 1 → skip q i < M := fun i hi => by unfold skip; split <;> omega
  obtain ⟨rs, hrs⟩ : ∃ rs, rs = L.eraseIdx q := ⟨_, rfl⟩
  have hrsl : rs.length = M - 1 := by rw [hrs, List.length_eraseIdx_of_lt (by have := HLL.out; omega), HLL.out]
  have hrat : ∀ (i : Nat) (r : List Int), rs[i]? = some r → i < M - 1 ∧ L[skip q i]? = some r := fun i r hr => by
    have hi := (List.getElem?_eq_some_iff.1 hr).1
    refine ⟨by omega, ?_⟩
    rw [hrs, List.getElem?_eraseIdx] at hr
    unfold skip
    split at hr
    · rw [if_pos (by assumption)]; exact hr
    · rw [if_neg (by assumption)]; exact hr
  obtain ⟨H, hH⟩ : ∃ H : Nat → Nat, H = fun i => G (skip q i) := ⟨_, rfl⟩
  have hst : RedSt w4 g H rs q M 0 := fun i r hr => by
    obtain ⟨hi, hL⟩ := hrat i r hr
    obtain ⟨p1, p2, p3, p4, p5⟩ := HROW.out _ r hL
    refine ⟨p5, (hc4 i hi).2, by rw [(hc4 i hi).1, if_neg (by omega), hH], fun h => absurd h (by omega), fun _ => by rw [hH]; exact p4.moves hm4 (by omega)⟩
  have hHg : ∀ i, i < rs.length → H i ≠ g ∧ H i < w4.heap.size ∧ w.heap.size ≤ H i := fun i hi => by
    obtain ⟨r, hr⟩ : ∃ r, rs[i]? = some r := ⟨_, List.getElem?_eq_getElem hi⟩
    obtain ⟨p1, p2, p3, _, _⟩ := HROW.out _ r (hrat i r hr).2
    rw [hH]
    show G (skip q i) ≠ g ∧ G (skip q i) < w4.heap.size ∧ w.heap.size ≤ G (skip q i)
    exact ⟨by omega, by omega, by omega⟩
  have hHi : ∀ i j, i < rs.length → j < rs.length → i ≠ j → H i ≠ H j := fun i j hi hj hne => by
    have s1 := hsk i (by omega)
    have s2 := hsk j (by omega)
    rw [hH]
    have h3 : skip q i ≠ skip q j := by unfold skip; split <;> split <;> omega
    rcases Nat.lt_or_ge (skip q i) (skip q j) with l | l
    · have := HINJ.out _ _ l s2; simp only; omega
    · have := HINJ.out _ _ (show skip q j < skip q i by omega) s1; simp only; omega
  have HB4 : Hid (Below w.heap.size w w4) := Lib.hid (belowMoves HB5.out hm4 (by omega) HB5.out.size)
  have HST := Lib.hid hst
  have HHG := Lib.hid hHg
  have HHI := Lib.hid hHi
  have HRSL := Lib.hid hrsl
  have HRES := Lib.hid (show redM q L = rs.map fun r => r.eraseIdx q by rw [redM, hrs])
  have hgl4 : g < w4.heap.size := by omega
  have hM1 : M - 1 ≤ 5 := by omega
  have HS4 := Lib.hid hs4
  clear hc4 hsk hrsl hrat hst hHg hHi hm4 hs4 HROW HAT HINJ HB5 HDR hrs hH
  go_wp2_with fail
  go_loopw [24] (fun i wr => ∃ k : Nat, k ≤ M - 1 ∧ i = .int .i64 k ∧ RedSt wr g H rs q M k ∧ wr.heap.size = w4.heap.size ∧ Below w.heap.size w wr) (fun i _ => M - 1 - (intOf i).toNat)
  case atStart => exact ⟨0, Nat.zero_le _, rfl, HST.out, rfl, HB4.out⟩
  case round =>
    obtain ⟨k, hk, rfl, hst, hsz, hb⟩ := hrel
    have HR := Lib.hid hst
    have HZ := Lib.hid hsz
    have HB := Lib.hid hb
    clear hst hsz hb
    by_cases hlt : k < M - 1
    · obtain ⟨r, hr⟩ : ∃ r, rs[k]? = some r := ⟨_, List.getElem?_eq_getElem (by have := HRSL.out; omega)⟩
      obtain ⟨p1, p2, p3, p4, p5⟩ := HR.out k r hr
      rw [if_neg (by omega)] at p3
      have hk0 : (0 : Int) ≤ (k : Int) := Int.natCast_nonneg _
      have hk1 : (k : Int) < ((M - 1 : Nat) : Int) := by omega
      have hd := delI_any (H k) q r wr (by omega) (by omega) (p5 (Nat.le_refl _))
      rw [p1] at hd
      have HD := Lib.hid hd
      have HRK := Lib.hid hr
      have hgk := HHG.out k (by have := HRSL.out; omega)
      obtain ⟨hgk1, hgk2, hgk3⟩ := hgk
      clear hd hr p1 p4 p5
      go_wp2_with fail
      refine HD.out.mono ?_
      rintro e w5 ⟨rfl, hm5, hs5, hc5⟩
      have hbg := hm5.block g (by have := HZ.out; omega) (by omega)
      have f1 : w5.cell? ⟨g, k, none⟩ = some (.slice (some ⟨H k, 0, none⟩) M M) := (World.cell?_of_block (a := ⟨g, k, none⟩) hbg).trans p3
      have f2 : w5.frozen? ⟨g, k, none⟩ = false := (World.frozen?_of_block (a := ⟨g, k, none⟩) hbg).trans p2
      have HN := Lib.hid (RedSt.step HR.out HRK.out hm5 (fun i hi => by have := HHG.out i hi; have := HZ.out; exact ⟨by omega, by omega⟩) (by have := HZ.out; omega) HHI.out hc5)
      have HBN := Lib.hid ((belowMoves HB.out hm5 (by omega) HB.out.size).setCell (p := ⟨g, k, none⟩) (by simp only; omega) (.slice (some ⟨H k, 0, none⟩) (M - 1) M))
      have HSN := Lib.hid (show (w5.setCell ⟨g, k, none⟩ (.slice (some ⟨H k, 0, none⟩) (M - 1) M)).heap.size = w4.heap.size by rw [World.size_setCell, hs5, HZ.out])
      clear hm5 hs5 hc5 hbg p2 p3
      go_wp2
      exact ⟨⟨k + 1, by omega, by go_num, HN.out, HSN.out, HBN.out⟩, by simp [intOf]; omega⟩
    · have hkl : k = rs.length := by have := HRSL.out; omega
      have hst := HR.out
      rw [hkl] at hst
      have HO := Lib.hid (RedSt.own hst hq (by have := HZ.out; omega) (show w.heap.size ≤ g by omega) (fun i hi => by have h1 := HHG.out i hi; have h2 := HZ.out; exact ⟨by omega, by omega, by omega⟩) HHI.out)
      have HLEN := Lib.hid (show (rs.map fun r => r.eraseIdx q).length = M - 1 by rw [List.length_map, HRSL.out])
      clear hst hkl
      go_wp2
      go_ret
      exact ⟨some ⟨g, 0, none⟩, M, by rw [HRES.out, HLEN.out]; rfl, by rw [HRES.out, HLEN.out]; omega, by rw [HRES.out]; exact HO.out, HB.out⟩
set_option maxHeartbeats 2000000 in
theorem implRed_no (N : Int) (A : Option Addr) (c : Nat) (es : List (Int × Int)) (v : Int) (w : World) (hn : es.length ≤ 1048576) (h : graphB N es = false ∨ (graphB N es = true ∧ vB v N = false)) (hE : EdgeS w w.heap.size A es) :
    Calls Try.prog 56 #[.agg #[.int .i64 N, .slice A es.length c], .int .i64 v] w (GivesSSC w []) := by
  have HE := Lib.hid hE
  clear hE
  have hb0 : Below w.heap.size w (w.alloc (Obj.cells #[.int .i64 N, .slice A es.length c] 25)) := (Below.refl _ _).alloc (Nat.le_refl _) _
  rcases h with hB | ⟨hB, hv⟩
  · go_enter Try.func56, Try.ntmps56
    go_wp2_with fail
    refine (implGraphOk _ _ _ _ _ hn (HE.out.up_ hb0)).mono ?_
    rintro e w1 ⟨rfl, hb1⟩
    have hbb : Below w.heap.size w w1 := hb0.trans (hb1.mono hb0.size)
    clear hb0 hb1
    go_wp2
    go_ret
    exact ⟨none, 0, rfl, Nat.zero_le _, OwnSS.nil _ _ _ _, hbb⟩
  · go_enter Try.func56, Try.ntmps56
    go_wp2_with fail
    refine (implGraphOk _ _ _ _ _ hn (HE.out.up_ hb0)).mono ?_
    rintro e w1 ⟨rfl, hb1⟩
    have hbb : Below w.heap.size w w1 := hb0.trans (hb1.mono hb0.size)
    have hx1 := (Blk.new w 25 #[.int .i64 N, .slice A es.length c]).below hb1 (by simp)
    have c0 : w1.cell? ⟨w.heap.size, 0, none⟩ = some (.int .i64 N) := by rw [hx1.cell]; rfl
    have c1 : w1.cell? ⟨w.heap.size, 1, none⟩ = some (.slice A es.length c) := by rw [hx1.cell]; rfl
    clear hb0 hb1 hx1
    go_wp2_with fail
    refine (hasVertex_any _ _ _ _ ⟨_, _, _, rfl⟩).mono ?_
    rintro e w2 ⟨rfl, hb2⟩
    have hb3 : Below w.heap.size w w2 := hbb.trans (hb2.mono hbb.size)
    go_wp2
    go_ret
    exact ⟨none, 0, rfl, Nat.zero_le _, OwnSS.nil _ _ _ _, hb3⟩
theorem implRlpC (N : Int) (A : Option Addr) (c : Nat) (es : List (Int × Int)) (q : Int) (w : World) (hn : es.length ≤ 1048576) (hE : EdgeS w w.heap.size A es) :
    Calls Try.prog 56 #[.agg #[.int .i64 N, .slice A es.length c], .int .i64 q] w (GivesSSC w (redB N es q)) := by
  cases h : graphB N es with
  | false => rw [redB_f (.inl h)]; exact implRed_no N A c es q w hn (.inl h) hE
  | true =>
    cases h2 : vB q N with
    | false => rw [redB_f (.inr h2)]; exact implRed_no N A c es q w hn (.inr ⟨h, h2⟩) hE
    | true =>
      rw [redB_t h h2]
      have h1 := edgesB_lims (graphB_all h).1
      have h3 := vB_iff h2
      obtain ⟨M, rfl⟩ : ∃ M : Nat, N = (M : Int) := ⟨N.toNat, by omega⟩
      obtain ⟨k, rfl⟩ : ∃ k : Nat, q = (k : Int) := ⟨q.toNat, by omega⟩
      rw [Int.toNat_natCast, Int.toNat_natCast]
      exact implRed_yes M k A c es w h (by omega) hE
theorem implRlp (N : Int) (A : Option Addr) (c : Nat) (es : List (Int × Int)) (q : Int) (w : World) (hn : es.length ≤ 1048576) (hE : EdgeS w w.heap.size A es) :
    Calls Try.prog 56 #[.agg #[.int .i64 N, .slice A es.length c], .int .i64 q] w (GivesSS w (redB N es q)) := (implRlpC N A c es q w hn hE).mono fun _ _ h => h.plain
end Go.Proofs.Ytmehdngibbilaaa

/- CountTrees: both sides. -/
namespace Go.Proofs.Ytmehdngibbilaaa
open Go.RowKit

noncomputable def treesB (N : Int) (es : List (Int × Int)) : Int := if graphB N es = true then detB (redB N es 0) else 0
theorem treesB_t {N : Int} {es : List (Int × Int)} (h : graphB N es = true) : treesB N es = detB (redB N es 0) := by rw [treesB, if_pos h]
theorem treesB_f {N : Int} {es : List (Int × Int)} (h : graphB N es = false) : treesB N es = 0 := by rw [treesB, if_neg (by rw [h]; decide)]
set_option maxHeartbeats 1000000 in
theorem implTrees (N : Int) (A : Option Addr) (c : Nat) (es : List (Int × Int)) (w : World) (hn : es.length ≤ 1048576) (hE : EdgeS w w.heap.size A es) :
    Calls Try.prog 21 #[.agg #[.int .i64 N, .slice A es.length c]] w fun e w' => e = .returned (.int .i64 (treesB N es)) ∧ Below w.heap.size w w' := by
  have HE := Lib.hid hE
  clear hE
  have hb0 : Below w.heap.size w (w.alloc (Obj.cells #[.int .i64 N, .slice A es.length c] 25)) := (Below.refl _ _).alloc (Nat.le_refl _) _
  have HG := fun w h => Lib.hid (implGraphOk N A c es w hn h)
  cases hB : graphB N es with
  | false =>
    rw [hB] at HG
    rw [treesB_f hB]
    clear hB
    go_enter Try.func21, Try.ntmps21
    go_wp2_with fail
    refine (HG _ (HE.out.up_ hb0)).out.mono ?_
    rintro e w1 ⟨rfl, hb1⟩
    have hbb : Below w.heap.size w w1 := hb0.trans (hb1.mono hb0.size)
    clear hb0 hb1
    go_wp2
    go_ret
    exact ⟨rfl, hbb⟩
  | true =>
    rw [hB] at HG
    rw [treesB_t hB]
    have HR := fun w h => Lib.hid (implRlp N A c es 0 w hn h)
    obtain ⟨hr6, hrl⟩ := redB_len (N := N) (es := es) (q := 0)
    obtain ⟨rs, hrs⟩ : ∃ rs, rs = redB N es 0 := ⟨_, rfl⟩
    rw [← hrs] at HR hr6 hrl ⊢
    have HD := fun A c w h => Lib.hid (implDet A c rs w (by omega) (fun r hr => by have := hrl r hr; omega) h)
    clear hB hrs hrl
    go_enter Try.func21, Try.ntmps21
    go_wp2_with fail
    refine (HG _ (HE.out.up_ hb0)).out.mono ?_
    rintro e w1 ⟨rfl, hb1⟩
    have hbb : Below w.heap.size w w1 := hb0.trans (hb1.mono hb0.size)
    have hx1 := (Blk.new w 25 #[.int .i64 N, .slice A es.length c]).below hb1 (by simp)
    have k0 : w1.cell? ⟨w.heap.size, 0, none⟩ = some (.int .i64 N) := by rw [hx1.cell]; rfl
    have k1 : w1.cell? ⟨w.heap.size, 1, none⟩ = some (.slice A es.length c) := by rw [hx1.cell]; rfl
    clear hb0 hb1 hx1
    go_wp2_with fail
    refine (HR _ (HE.out.up_ hbb)).out.mono ?_
    rintro e w2 ⟨A2, c2, rfl, hr2, hb2⟩
    have hb3 := hbb.trans (hb2.mono hbb.size)
    have HR2 := Lib.hid hr2.ints
    clear hr2 hb2 hbb k0 k1
    go_wp2_with fail
    refine (HD _ _ _ HR2.out).out.mono ?_
    rintro e w3 ⟨rfl, hb4⟩
    have hb5 := hb3.trans (hb4.mono hb3.size)
    go_wp2
    go_ret
    exact ⟨rfl, hb5⟩
end Go.Proofs.Ytmehdngibbilaaa

/- Greatest common divisors: the program's and the specification's. -/
namespace Go.Proofs.Ytmehdngibbilaaa
open Go.RowKit

theorem gcd_tmod (a b : Int) : Int.gcd b (a.tmod b) = Int.gcd a b := by
  unfold Int.gcd
  rw [Int.natAbs_tmod, Nat.gcd_comm a.natAbs b.natAbs, Nat.gcd_rec b.natAbs a.natAbs, Nat.gcd_comm]
theorem gcd_end (a : Int) : (Int.gcd a 0 : Int) = max a (-a) := by
  rw [Int.gcd_zero_right]
  omega
theorem tmod_small (a b : Int) (h : b ≠ 0) : (a.tmod b).natAbs < b.natAbs := by
  rw [Int.natAbs_tmod]
  exact Nat.mod_lt _ (by omega)
set_option maxHeartbeats 1000000 in
theorem commonDivisor_any (a b : Int) (w : World) (ha : absB 9000000000000000000 a) (hb : absB 9000000000000000000 b) :
    Calls Try.prog 108 #[.int .i64 a, .int .i64 b] w fun e w' => e = .returned (.int .i64 (Int.gcd a b : Nat)) ∧ Below w.heap.size w w' := by
  unfold absB at ha hb
  obtain ⟨ha1, ha2⟩ := ha
  obtain ⟨hb1, hb2⟩ := hb
  go_enter Try.func108, Try.ntmps108
  go_wp2
  go_loopw [0, 1] (fun x y wr => ∃ c d : Int, x = .int .i64 c ∧ y = .int .i64 d ∧ (-9000000000000000000 ≤ c ∧ c ≤ 9000000000000000000) ∧ (-9000000000000000000 ≤ d ∧ d ≤ 9000000000000000000) ∧ Int.gcd c d = Int.gcd a b ∧ Below w.heap.size w wr) (fun _ y _ => (intOf y).natAbs)
  case atStart => exact ⟨a, b, rfl, rfl, ⟨ha1, ha2⟩, ⟨hb1, hb2⟩, rfl, Below.refl _ _⟩
  case round =>
    obtain ⟨c, d, rfl, rfl, ⟨hc1, hc2⟩, ⟨hd1, hd2⟩, hg, hbw⟩ := hrel
    have HG := Lib.hid hg
    clear hg
    by_cases hd : d = 0
    · have HE := Lib.hid (show (Int.gcd a b : Int) = max c (-c) by rw [← HG.out, hd, gcd_end])
      have t1 : (d != 0) = false := by simp [hd]
      clear hd
      go_wp2
      all_goals
        go_ret
        exact ⟨ret_intE (by have h := HE.out; first | exact h.symm | omega), hbw⟩
    · have t1 : (d != 0) = true := by simp [hd]
      have hlt := tmod_small c d hd
      have HG2 := Lib.hid ((gcd_tmod c d).trans HG.out)
      have hm1 : -9000000000000000000 ≤ c.tmod d ∧ c.tmod d ≤ 9000000000000000000 := by
        generalize c.tmod d = m at hlt
        omega
      go_wp2
      go_region
      go_wp2
      exact ⟨⟨d, c.tmod d, rfl, rfl, ⟨hd1, hd2⟩, hm1, HG2.out, hbw.drew⟩, hlt⟩
end Go.Proofs.Ytmehdngibbilaaa

/- The specification's sets of numbers. -/
namespace Go.Proofs.Ytmehdngibbilaaa
open Go.RowKit

theorem SSOwnV.cell {w : World} {base : Nat} {v : Value} {vs : List Value} {rs : List (List Int)} (h : SSOwnV w base v vs rs) {a : Nat} {u : Value} (hu : vs[a]? = some u) :
    ∃ (g cap : Nat), v = .slice (some ⟨g, 0, none⟩) rs.length cap ∧ g < w.heap.size ∧ w.cell? ⟨g, a, none⟩ = some u := by
  obtain ⟨h1, _⟩ := h
  have ha : a < vs.length := (List.getElem?_eq_some_iff.1 hu).1
  have hl := h1.1
  rcases h1.2 with ⟨_, e0⟩ | ⟨g, cap, cur, e, hb, hg, hnc, _, hcs, htk⟩
  · omega
  · have hob : v.ownBlock = some g := by rw [e]; rfl
    have hc := h1.cells hob a u hu
    rw [Addr.add_lit, Nat.zero_add] at hc
    exact ⟨g, cap, e, (h1.lt g hob).2, hc⟩
theorem SSOwnV.ints {w : World} {base b n c : Nat} {v : Value} {vs : List Value} {rs : List (List Int)} (h : SSOwnV w base v vs rs) {a : Nat} {r : List Int} (hr : rs[a]? = some r) (hu : vs[a]? = some (.slice (some ⟨b, 0, none⟩) n c)) :
    ∀ (i : Nat) (x : Int), r[i]? = some x → w.cell? ⟨b, i, none⟩ = some (.int .i64 x) := fun i x hx => by
  obtain ⟨u, hu2, hq⟩ := h.2 a r hr
  rw [hu] at hu2
  injection hu2 with hu2
  subst hu2
  have := World.ownsRow.cells hq rfl i (.int .i64 x) (by simp [intCells, hx])
  rwa [Addr.add_lit, Nat.zero_add] at this
theorem SSOwnV.lt {w : World} {base b n c : Nat} {v : Value} {vs : List Value} {rs : List (List Int)} (h : SSOwnV w base v vs rs) {a : Nat} {r : List Int} (hr : rs[a]? = some r) (hu : vs[a]? = some (.slice (some ⟨b, 0, none⟩) n c)) : b < w.heap.size := by
  obtain ⟨u, hu2, hq⟩ := h.2 a r hr
  rw [hu] at hu2
  injection hu2 with hu2
  subst hu2
  exact (World.ownsRow.lt hq b rfl).2
end Go.Proofs.Ytmehdngibbilaaa

/- The specification's InvariantFactors. -/
namespace Go.Proofs.Ytmehdngibbilaaa
open Go.RowKit

theorem gcd_le_of {a b B : Nat} (ha : a ≤ B) (hb : b ≤ B) : Nat.gcd a b ≤ B := by
  rcases Nat.eq_zero_or_pos a with h | h
  · rw [h, Nat.gcd_zero_left]; exact hb
  · exact Nat.le_trans (Nat.gcd_le_left b h) ha
theorem gcdL_le {B : Nat} : ∀ (l : List Int) (g : Nat), g ≤ B → (∀ x ∈ l, x.natAbs ≤ B) → gcdL g l ≤ B
  | [], _, hg, _ => hg
  | x :: l, g, hg, h => by
    rw [gcdL]
    exact gcdL_le l _ (gcd_le_of hg (h x (by simp))) (fun y hy => h y (by simp [hy]))
theorem gcdL_snoc (l : List Int) (x : Int) (g : Nat) : gcdL g (l ++ [x]) = Int.gcd (gcdL g l : Nat) x := by
  rw [gcdL_append]
  rfl
def rowAt (rs : List (List Int)) (i : Nat) : Nat → Int := rowF (rs.getD i [])
theorem rowAt_in {rs : List (List Int)} (h : ∀ r ∈ rs, r.length = rs.length ∧ ∀ x ∈ r, -500 ≤ x ∧ x ≤ 500) (i c : Nat) : in5 (rowAt rs i c) := by
  unfold rowAt rowF in5
  simp only [List.getD]
  cases hr : rs[i]? with
  | none => simp
  | some r =>
    simp only [Option.getD_some]
    cases hx : r[c]? with
    | none => simp
    | some x => exact (h r (List.mem_of_getElem? hr)).2 x (List.mem_of_getElem? hx)
theorem det_in {rs : List (List Int)} (h : ∀ r ∈ rs, r.length = rs.length ∧ ∀ x ∈ r, -500 ≤ x ∧ x ≤ 500) {R C : List Nat} (hR : R.length ≤ 6) (hC : C.length = R.length) : absB 7500000000000000000 (detF (R.map (rowAt rs)) C) :=
  det_bound _ _ (by simpa using hR) (by simpa using hC) (fun r hr c => by
    simp only [List.mem_map] at hr
    obtain ⟨i, _, rfl⟩ := hr
    exact rowAt_in h i c)
def divsB (rs : List (List Int)) : List Nat := (List.range rs.length).map fun k => gSets rs.length (rowAt rs) (k + 1)
theorem divsB_len (rs : List (List Int)) : (divsB rs).length = rs.length := by simp [divsB]
theorem divsB_at {rs : List (List Int)} {k : Nat} (h : k < rs.length) : (divsB rs)[k]? = some (gSets rs.length (rowAt rs) (k + 1)) := by simp [divsB, h]
def invB (rs : List (List Int)) : List Int := if matB rs = true then natI (facB 1 (divsB rs)) else []
theorem invB_t {rs : List (List Int)} (h : matB rs = true) : invB rs = natI (facB 1 (divsB rs)) := by rw [invB, if_pos h]
theorem invB_f {rs : List (List Int)} (h : matB rs = false) : invB rs = [] := by rw [invB, if_neg (by rw [h]; decide)]
theorem invB_len {rs : List (List Int)} (hn : rs.length ≤ 1048576) : (invB rs).length ≤ 1048576 := by
  unfold invB
  split
  · rw [natI_len, facB_len, divsB_len]; exact hn
  · simp
theorem fac_step {F P Gs : List Nat} {b j g : Nat} (h : F = P ++ facB b (Gs.drop j)) (hg : Gs[j]? = some g) (h0 : b ≠ 0) (h1 : g ≠ 0) : F = (P ++ [g / b]) ++ facB g (Gs.drop (j + 1)) := by
  obtain ⟨hj, rfl⟩ := List.getElem?_eq_some_iff.1 hg
  rw [h, List.drop_eq_getElem_cons hj, facB, if_neg (by omega)]
  simp
theorem fac_end {F P Gs : List Nat} {b j : Nat} (h : F = P ++ facB b (Gs.drop j)) (hj : Gs.length ≤ j) : F = P := by
  rw [h, List.drop_of_length_le hj, facB, List.append_nil]
end Go.Proofs.Ytmehdngibbilaaa

/- The program's minorDivisors: the walk over the sets of rows. -/
namespace Go.Proofs.Ytmehdngibbilaaa
open Go.RowKit

def vals (n : Nat) (R : List (Nat → Int)) : List Int := (List.range (2 ^ n)).map (minorA n R)
theorem vals_len (n : Nat) (R : List (Nat → Int)) : (vals n R).length = 2 ^ n := by simp [vals]
theorem minorA_in {n S : Nat} {R : List (Nat → Int)} (h6 : R.length ≤ 6) (hR : ∀ r ∈ R, ∀ c, in5 (r c)) : absB 7500000000000000000 (minorA n R S) := by
  unfold minorA
  split
  · rename_i h
    have h1 := det_same R.length R.reverse (bitsN n S) (by simp) h
    rw [List.reverse_reverse] at h1
    rw [← h1]
    exact det_bound _ _ (by simpa using h6) (by simpa using h) (fun r hr => hR r (by simpa using hr))
  · unfold absB; omega
theorem chips_vals {n : Nat} {R : List (Nat → Int)} (h6 : R.length ≤ 6) (hR : ∀ r ∈ R, ∀ c, in5 (r c)) : chipsOf (2 ^ n) (minorA n R) = vals n R := by
  apply List.ext_getElem?
  intro i
  by_cases hi : i < 2 ^ n
  · have hb := minorA_in (n := n) (S := i) h6 hR
    unfold absB at hb
    rw [chipsOf_at _ hi, wrap64_of (by omega) (by omega)]
    simp [vals, hi]
  · rw [List.getElem?_eq_none (by rw [chipsOf_len]; omega), List.getElem?_eq_none (by rw [vals_len]; omega)]
theorem vals_in {n : Nat} {R : List (Nat → Int)} (h6 : R.length ≤ 6) (hR : ∀ r ∈ R, ∀ c, in5 (r c)) : ∀ x ∈ vals n R, x.natAbs ≤ 7500000000000000000 := fun x hx => by
  simp only [vals, List.mem_map] at hx
  obtain ⟨S, _, rfl⟩ := hx
  have hb := minorA_in (n := n) (S := S) h6 hR
  unfold absB at hb
  omega
theorem rowF_in {r : List Int} (h : ∀ x ∈ r, -500 ≤ x ∧ x ≤ 500) (c : Nat) : in5 (rowF r c) := by
  unfold rowF in5
  simp only [List.getD]
  cases hx : r[c]? with
  | none => simp
  | some x => exact h x (List.mem_of_getElem? hx)
def afterRow (n size : Nat) (R : List (Nat → Int)) (D : List Nat) : List Nat := D.set size (gcdL (D.getD size 0) (vals n R))
theorem collectF_cons (n size : Nat) (R : List (Nat → Int)) (r : Nat → Int) (rest : List (Nat → Int)) (D : List Nat) : collectF n size R (r :: rest) D = collectF n size R rest (collectF n (size + 1) (r :: R) rest (afterRow n size (r :: R) D)) := by rw [collectF, afterRow, vals]
theorem afterRow_len (n size : Nat) (R : List (Nat → Int)) (D : List Nat) : (afterRow n size R D).length = D.length := by simp [afterRow]
theorem getD_le {D : List Nat} {B : Nat} (h : ∀ d ∈ D, d ≤ B) (i : Nat) : D.getD i 0 ≤ B := by
  simp only [List.getD]
  cases hx : D[i]? with
  | none => simp
  | some x => exact h x (List.mem_of_getElem? hx)
theorem afterRow_le {n size : Nat} {R : List (Nat → Int)} {D : List Nat} (h6 : R.length ≤ 6) (hR : ∀ r ∈ R, ∀ c, in5 (r c)) (hD : ∀ d ∈ D, d ≤ 7500000000000000000) : ∀ d ∈ afterRow n size R D, d ≤ 7500000000000000000 := fun d hd => by
  rcases List.mem_or_eq_of_mem_set hd with h | h
  · exact hD d h
  · rw [h]
    exact gcdL_le _ _ (getD_le hD size) (vals_in h6 hR)
theorem collectF_le {n : Nat} : ∀ (rest : List (Nat → Int)) (size : Nat) (R : List (Nat → Int)) (D : List Nat), R.length + rest.length ≤ 6 → (∀ r ∈ R, ∀ c, in5 (r c)) → (∀ r ∈ rest, ∀ c, in5 (r c)) → (∀ d ∈ D, d ≤ 7500000000000000000) → ∀ d ∈ collectF n size R rest D, d ≤ 7500000000000000000
  | [], _, _, _, _, _, _, hD => hD
  | r :: rest, size, R, D, hl, hR, hr, hD => by
    rw [collectF_cons]
    rw [List.length_cons] at hl
    have hR2 : ∀ r' ∈ r :: R, ∀ c, in5 (r' c) := fun r' h => by
      rcases List.mem_cons.1 h with h | h
      · rw [h]; exact hr r (by simp)
      · exact hR r' h
    have hr2 : ∀ r' ∈ rest, ∀ c, in5 (r' c) := fun r' h => hr r' (by simp [h])
    exact collectF_le rest size R _ (by omega) hR hr2 (collectF_le rest (size + 1) (r :: R) _ (by simp; omega) hR2 hr2 (afterRow_le (by simp; omega) hR2 hD))
def midRow (size : Nat) (V : List Int) (D : List Nat) (k : Nat) : List Nat := D.set size (gcdL (D.getD size 0) (V.take k))
theorem midRow_zero (size : Nat) (V : List Int) (D : List Nat) (h : size < D.length) : midRow size V D 0 = D := by
  rw [midRow, List.take_zero, gcdL]
  apply List.ext_getElem?
  intro i
  by_cases e : size = i
  · subst e
    rw [List.getElem?_set_self h, List.getD_eq_getElem?_getD, List.getElem?_eq_getElem h, Option.getD_some]
  · rw [List.getElem?_set_ne e]
theorem midRow_at (size : Nat) (V : List Int) (D : List Nat) (k : Nat) (h : size < D.length) : (midRow size V D k)[size]? = some (gcdL (D.getD size 0) (V.take k)) := by rw [midRow, List.getElem?_set_self h]
theorem midRow_step (size : Nat) {V : List Int} (D : List Nat) {k : Nat} {x : Int} (hx : V[k]? = some x) : (midRow size V D k).set size (Int.gcd (gcdL (D.getD size 0) (V.take k) : Nat) x) = midRow size V D (k + 1) := by
  rw [midRow, midRow, List.set_set, List.take_add_one, hx, Option.toList_some, gcdL_snoc]
theorem midRow_all (n size : Nat) (R : List (Nat → Int)) (D : List Nat) {k : Nat} (h : 2 ^ n ≤ k) : midRow size (vals n R) D k = afterRow n size R D := by rw [midRow, afterRow, List.take_of_length_le (by rw [vals_len]; exact h)]
theorem natI_set (D : List Nat) (i x : Nat) : (intCells (natI D)).set i (.int .i64 (x : Int)) = intCells (natI (D.set i x)) := by simp [intCells, natI, List.map_set]
def closV (dB cB : Nat) : Value := .func (.func 106) #[] #[.pointer (some ⟨dB, 0, none⟩), .pointer (some ⟨cB, 0, none⟩)]
def Collected (w : World) (dg : Nat) (D : List Nat) (e : Ending) (w' : World) : Prop := e = .returned (.tuple #[]) ∧ Blk w' dg 3 (intCells (natI D)).toArray ∧ Moves dg (dg + 1) w w'
def GivesV (w : World) (K : Nat) (zs : List Int) (e : Ending) (w' : World) : Prop := ∃ (A : Option Addr) (c : Nat), e = .returned (.slice A K c) ∧ OwnI w' w.heap.size A zs ∧ Below w.heap.size w w'
theorem withRow_vals (n : Nat) (A C : Option Addr) (ca cc : Nat) (R : List (Nat → Int)) (row : List Int) (w : World) (hn : n ≤ 6) (h6 : R.length + 1 ≤ 6) (hR : ∀ r ∈ R, ∀ c, in5 (r c)) (hl : row.length = n) (hr : ∀ x ∈ row, -500 ≤ x ∧ x ≤ 500)
    (hS : IntS w w.heap.size A (vals n R)) (hT : IntS w w.heap.size C row) :
    Calls Try.prog 107 #[.slice A (2 ^ n : Nat) ca, .slice C row.length cc] w (GivesV w (2 ^ n) (vals n (rowF row :: R))) := by
  have hR2 : ∀ r' ∈ rowF row :: R, ∀ c, in5 (r' c) := fun r' h => by
    rcases List.mem_cons.1 h with h | h
    · rw [h]; exact rowF_in hr
    · exact hR r' h
  rw [← chips_vals (by omega) hR] at hS
  refine (withRow_any n A C ca cc R row w hn hl hr hS hT).mono fun e w' ⟨A9, c9, he, ho, hb⟩ => ?_
  have e2 : chipsOf (2 ^ n) (minorA n ((fun c => row.getD c 0) :: R)) = vals n (rowF row :: R) := chips_vals (R := rowF row :: R) (by simp; omega) hR2
  rw [e2] at he ho
  exact ⟨A9, c9, by rw [he, vals_len], ho, hb⟩
set_option maxRecDepth 100000 in
set_option maxHeartbeats 4000000 in
theorem collect_any (n : Nat) (hn : n ≤ 6) (t : TypeId) (dB dg cB : Nat) (h1 : dB ≠ dg) (h2 : cB ≠ dg) : ∀ (m : Nat) (rest : List (List Int)) (size : Nat) (R : List (Nat → Int)) (D : List Nat) (A B : Option Addr) (ca cb lo base : Nat) (w : World),
    rest.length ≤ m → size + rest.length ≤ n → R.length = size → D.length = n → (∀ d ∈ D, d ≤ 7500000000000000000) → (∀ r ∈ R, ∀ c, in5 (r c)) → (∀ r ∈ rest, r.length = n ∧ ∀ x ∈ r, -500 ≤ x ∧ x ≤ 500) → rest.length ≤ cb → dg < base → lo ≤ dg → lo ≤ w.heap.size →
    OwnI w base A (vals n R) → IntSS w lo B rest → Blk w dB 27 #[.slice (some ⟨dg, 0, none⟩) n n] → Blk w cB t #[closV dB cB] → Blk w dg 3 (intCells (natI D)).toArray →
    Calls Try.prog 106 #[.int .i64 (size : Int), .slice A (2 ^ n : Nat) ca, .slice B rest.length cb, .pointer (some ⟨dB, 0, none⟩), .pointer (some ⟨cB, 0, none⟩)] w (Collected w dg (collectF n size R (rest.map rowF) D)) := by
  intro m
  induction m with
  | zero =>
    intro rest size R D A B ca cb lo base w hm _ _ _ _ _ _ _ _ _ _ _ _ _ _ hbd
    obtain rfl : rest = [] := List.length_eq_zero_iff.1 (by omega)
    have HBD := Lib.hid hbd
    clear hbd hm
    go_enter Try.func106, Try.ntmps106
    go_wp2
    go_loopw [14] (fun iv wr => iv = .int .i64 0 ∧ w = wr) (fun _ _ => 0)
    case atStart => exact ⟨rfl, rfl⟩
    case round =>
      obtain ⟨rfl, rfl⟩ := hrel
      go_wp2
      go_end0
      exact ⟨rfl, HBD.out, Moves.refl _ _ _⟩
  | succ m ih =>
    intro rest size R D A B ca cb lo base w hm hsz hRl hDl hD hR hrest hcb hdg hlo hlow hO hS hbB hbC hbD
    have IH := Lib.hid ih
    have HO := Lib.hid hO
    have HS := Lib.hid hS
    have HBB := Lib.hid hbB
    have HBC := Lib.hid hbC
    have HBD := Lib.hid hbD
    have HREST := Lib.hid hrest
    have HR := Lib.hid hR
    have HD := Lib.hid hD
    have HRL := Lib.hid hRl
    have HDL := Lib.hid hDl
    have hlB := hbB.lt
    have hlC := hbC.lt
    have hlD := hbD.lt
    have HWR := fun A C ca cc row w h1 h2 h3 h4 h5 => Lib.hid (withRow_vals n A C ca cc R row w hn h1 hR h2 h3 h4 h5)
    obtain ⟨K, hK⟩ : ∃ K, K = 2 ^ n := ⟨_, rfl⟩
    have hK64 : K ≤ 64 := by rw [hK]; exact Nat.pow_le_pow_right (by omega) hn
    have HVL := Lib.hid (fun R => (vals_len n R).trans hK.symm)
    have HMA := Lib.hid (fun size R D k (h : K ≤ k) => midRow_all n size R D (k := k) (by rw [← hK]; exact h))
    have HIK := Lib.hid ih
    rw [← hK] at HWR HIK ⊢
    have hsn : size + rest.length ≤ 6 := by omega
    have HRS := Lib.hid (show ∀ r ∈ rest.map rowF, ∀ c, in5 (r c) from fun r hr c => by
      obtain ⟨r0, hr0, rfl⟩ := List.mem_map.1 hr
      exact rowF_in (hrest r0 hr0).2 c)
    clear ih hO hS hbB hbC hbD hrest hR hD hRl hDl hK IH
    go_enter Try.func106, Try.ntmps106
    go_wp2
    go_loopw [14] (fun iv wr => ∃ (i : Nat) (D' : List Nat), i ≤ rest.length ∧ iv = .int .i64 i ∧ D'.length = n ∧ (∀ d ∈ D', d ≤ 7500000000000000000) ∧ collectF n size R (rest.map rowF) D = collectF n size R ((rest.drop i).map rowF) D' ∧ Blk wr dg 3 (intCells (natI D')).toArray ∧ Moves dg (dg + 1) w wr) (fun iv _ => rest.length - (intOf iv).toNat)
    case atStart => exact ⟨0, D, Nat.zero_le _, rfl, HDL.out, HD.out, rfl, HBD.out, Moves.refl _ _ _⟩
    case round =>
      obtain ⟨i, D', hi, rfl, hD'l, hD', hcol, hbd, hmv⟩ := hrel
      have HDL2 := Lib.hid hD'l
      have HD2 := Lib.hid hD'
      have HCOL := Lib.hid hcol
      have HBD2 := Lib.hid hbd
      have HMV := Lib.hid hmv
      have hws := hmv.size
      clear hD'l hD' hcol hbd hmv
      by_cases hlt : i < rest.length
      · obtain ⟨b, off, r, Ai, ci, rfl, hb, he, hcell, hri⟩ := (HS.out.moves HMV.out hlo hlow).at_ hlt
        have hi0 : (0 : Int) ≤ (i : Int) := Int.natCast_nonneg _
        have hi1 : (i : Int) < (rest.length : Int) := by omega
        obtain ⟨hrl, hre⟩ := HREST.out r (List.mem_of_getElem? he)
        have HE := Lib.hid he
        have HRE := Lib.hid hre
        have HRL2 := Lib.hid hrl
        have HRI := Lib.hid (IntS.wide hri (show lo ≤ wr.heap.size by omega))
        have HOW := Lib.hid ((HO.out.moves HMV.out (by omega)).ints)
        clear he hre hrl hri
        obtain ⟨wo, rfl⟩ : ∃ wo, wo = wr := ⟨_, rfl⟩
        go_wp2_with fail
        refine (HWR _ _ _ _ _ _ (by have := HRL.out; omega) HRL2.out HRE.out HOW.out HRI.out).out.mono ?_
        rintro e w2 ⟨A9, c9, rfl, ho9, hb9⟩
        have HO9 := Lib.hid ho9
        have HB9 := Lib.hid hb9
        have hw2 := hb9.size
        have HBD3 := Lib.hid (HBD2.out.below hb9 HBD2.out.lt)
        clear ho9 hb9
        have hsz2 : size < n := by omega
        have HRR : Hid (∀ r' ∈ rowF r :: R, ∀ c, in5 (r' c)) := Lib.hid (fun r' h => by
          rcases List.mem_cons.1 h with h | h
          · rw [h]; exact rowF_in HRE.out
          · exact HR.out r' h)
        have HR6 : (rowF r :: R).length ≤ 6 := by rw [List.length_cons, HRL.out]; omega
        have HVI := Lib.hid (vals_in (n := n) HR6 HRR.out)
        have HVL9 := Lib.hid (HVL.out (rowF r :: R))
        have HMA9 := Lib.hid (fun k h => HMA.out size (rowF r :: R) D' k h)
        obtain ⟨V, hV⟩ : ∃ V, V = vals n (rowF r :: R) := ⟨_, rfl⟩
        rw [← hV] at HO9 HVI HVL9 HMA9
        have HVV := Lib.hid hV
        have HM0 := Lib.hid (midRow_zero size V D' (by rw [HDL2.out]; exact hsz2))
        have HBB2 := Lib.hid ((HBB.out.moves HMV.out (by omega)).below HB9.out (by omega))
        have HBC2 := Lib.hid ((HBC.out.moves HMV.out (by omega)).below HB9.out (by omega))
        clear hV
        go_wp2_with fail
        go_loopw [25] (fun kv wx => ∃ k : Nat, k ≤ K ∧ kv = .int .i64 k ∧ Blk wx dg 3 (intCells (natI (midRow size V D' k))).toArray ∧ Moves dg (dg + 1) w2 wx) (fun kv _ => K - (intOf kv).toNat)
        case atStart => exact ⟨0, Nat.zero_le _, rfl, by rw [HM0.out]; exact HBD3.out, Moves.refl _ _ _⟩
        case round =>
          obtain ⟨k, hk, rfl, hbd, hmx⟩ := hrel
          have HBX := Lib.hid hbd
          have HMX := Lib.hid hmx
          have hwx := hmx.size
          clear hbd hmx
          have c1 : wr.cell? ⟨dB, 0, none⟩ = some (.slice (some ⟨dg, 0, none⟩) n n) := by rw [(HBB2.out.moves HMX.out (by omega)).cell]; rfl
          have d1 : wr.cell? ⟨cB, 0, none⟩ = some (.func (.func 106) #[] #[.pointer (some ⟨dB, 0, none⟩), .pointer (some ⟨cB, 0, none⟩)]) := by rw [(HBC2.out.moves HMX.out (by omega)).cell]; rfl
          by_cases hltk : k < K
          · obtain ⟨v, hv⟩ : ∃ v, V[k]? = some v := ⟨_, List.getElem?_eq_getElem (by rw [HVL9.out]; exact hltk)⟩
            obtain ⟨b9, o9, rfl, hb91, hb92, hc9⟩ := HO9.out (by rw [HVL9.out]; omega)
            have hcv := (hc9 k v hv).1
            have hcv2 : wr.cell? ⟨b9, o9 + k, none⟩ = some (.int .i64 v) := (World.cell?_of_block (a := ⟨b9, o9 + k, none⟩) (HMX.out.block b9 (by omega) (by omega))).trans hcv
            have hk0 : (0 : Int) ≤ (k : Int) := Int.natCast_nonneg _
            have hk1 : (k : Int) < (K : Int) := by omega
            have hs0 : (0 : Int) ≤ (size : Int) := Int.natCast_nonneg _
            have hs1 : (size : Int) < (n : Int) := by omega
            have hv1 := HVI.out v (List.mem_of_getElem? hv)
            have hg1 : gcdL (D'.getD size 0) (V.take k) ≤ 7500000000000000000 := gcdL_le _ _ (getD_le HD2.out size) (fun x hx => HVI.out x (List.mem_of_mem_take hx))
            have c2 : wr.cell? ⟨dg, size, none⟩ = some (.int .i64 (gcdL (D'.getD size 0) (V.take k) : Nat)) := blk_get HBX.out (natI_at (midRow_at size V D' k (by rw [HDL2.out]; exact hsz2)))
            have c3 := HBX.out.frozen size
            have HSTP := Lib.hid (midRow_step size D' hv)
            obtain ⟨g, hg⟩ : ∃ g, g = gcdL (D'.getD size 0) (V.take k) := ⟨_, rfl⟩
            rw [← hg] at hg1 c2 HSTP
            have HCD := fun w => Lib.hid (commonDivisor_any (g : Nat) v w (by unfold absB; omega) (by unfold absB; omega))
            obtain ⟨gn, hgn⟩ : ∃ gn, gn = Int.gcd (g : Nat) v := ⟨_, rfl⟩
            rw [← hgn] at HCD HSTP
            have hlb : dB < wr.heap.size := by omega
            have hld : dg < wr.heap.size := HBX.out.lt
            clear hv hcv hc9 hg hgn hv1 d1
            go_wp2_with fail
            go_region_law (first
              | (go_simp
                 go_at_call 108
                 refine (HCD _).out.mono ?_
                 rintro e w6 ⟨rfl, hb6⟩
                 have q1 : w6.cell? ⟨dB, 0, none⟩ = some (.slice (some ⟨dg, 0, none⟩) n n) := (hb6.cell (p := ⟨dB, 0, none⟩) hlb).trans c1
                 have q2 : w6.cell? ⟨dg, size, none⟩ = some (.int .i64 (g : Nat)) := (hb6.cell (p := ⟨dg, size, none⟩) hld).trans c2
                 have q3 : w6.frozen? ⟨dg, size, none⟩ = false := (hb6.frozen (p := ⟨dg, size, none⟩) hld).trans c3))
            all_goals
              have hb6 : Below wr.heap.size wr w6 := (Below.refl wr.heap.size wr).drew.trans hb6
              have hbn := (HBX.out.below hb6 hld).set_ size (.int .i64 (gn : Int))
              rw [List.setIfInBounds_toArray, natI_set, HSTP.out] at hbn
              have HBN := Lib.hid hbn
              have hmv6 : Moves dg (dg + 1) wr w6 := ⟨hb6.os, hb6.tape, hb6.output, hb6.size, fun i hi _ => hb6.block i hi⟩
              have HMN := Lib.hid ((HMX.out.trans hmv6).set_ size (.int .i64 (gn : Int)))
              clear hbn hmv6 hb6 q1 q2 q3
              go_wp2
              exact ⟨⟨k + 1, by omega, by go_num, HBN.out, HMN.out⟩, by simp [intOf]; omega⟩
          · have hbx := HBX.out
            rw [HMA9.out k (by omega)] at hbx
            have HBY := Lib.hid hbx
            have HAL := Lib.hid (afterRow_len n size (rowF r :: R) D')
            have HAD := Lib.hid (afterRow_le (n := n) (size := size) HR6 HRR.out HD2.out)
            have hre2 : (rest.drop i).map rowF = rowF r :: (rest.drop (i + 1)).map rowF := by
              have hl : i < rest.length := hlt
              rw [List.drop_eq_getElem_cons hl, List.map_cons]
              have := HE.out
              rw [List.getElem?_eq_getElem hl] at this
              injection this with this
              rw [this]
            have HC2 := Lib.hid (show collectF n size R (rest.map rowF) D = collectF n size R ((rest.drop (i + 1)).map rowF) (collectF n (size + 1) (rowF r :: R) ((rest.drop (i + 1)).map rowF) (afterRow n size (rowF r :: R) D')) by rw [HCOL.out, hre2, collectF_cons])
            have hdl : (rest.drop (i + 1)).length = rest.length - (i + 1) := List.length_drop
            have HCL := Lib.hid (collectF_len n ((rest.drop (i + 1)).map rowF) (size + 1) (rowF r :: R) (afterRow n size (rowF r :: R) D'))
            have HCB := Lib.hid (collectF_le (n := n) ((rest.drop (i + 1)).map rowF) (size + 1) (rowF r :: R) (afterRow n size (rowF r :: R) D') (by rw [List.length_map, hdl, List.length_cons, HRL.out]; omega) HRR.out (fun r' hr' => by
              obtain ⟨r0, hr0, rfl⟩ := List.mem_map.1 hr'
              exact rowF_in (HREST.out r0 (List.mem_of_mem_drop hr0)).2) HAD.out)
            obtain ⟨DD, hDD⟩ : ∃ DD, DD = collectF n (size + 1) (rowF r :: R) ((rest.drop (i + 1)).map rowF) (afterRow n size (rowF r :: R) D') := ⟨_, rfl⟩
            rw [← hDD] at HC2 HCL HCB
            have hBw : Moves dg (dg + 1) w wr := HMV.out.trans (Moves.trans ⟨HB9.out.os, HB9.out.tape, HB9.out.output, HB9.out.size, fun i hi _ => HB9.out.block i hi⟩ HMX.out)
            have HBW := Lib.hid hBw
            have HBB4 := Lib.hid (HBB2.out.moves HMX.out (by omega))
            have HBC4 := Lib.hid (HBC2.out.moves HMX.out (by omega))
            have HO4 := Lib.hid (HO9.out.moves HMX.out (by have := HBD2.out.lt; omega))
            rw [HVV.out] at HO4
            have hss : IntSS wr lo (some ⟨b, off, none⟩) rest := HS.out.moves HBW.out hlo hlow
            have hlow4 : lo ≤ wr.heap.size := by omega
            have HI : ∀ (A2 : Option Addr) (cb2 : Nat), rest.length - (i + 1) ≤ cb2 → IntSS wr lo A2 (rest.drop (i + 1)) → Hid (Calls Try.prog 106 #[.int .i64 ((size : Int) + 1), .slice A9 K c9, .slice A2 (rest.length - (i + 1)) cb2, .pointer (some ⟨dB, 0, none⟩), .pointer (some ⟨cB, 0, none⟩)] wr.drew (Collected wr.drew dg DD)) := fun A2 cb2 hcb2 hS2 => Lib.hid (by
              have h := HIK.out (rest.drop (i + 1)) (size + 1) (rowF r :: R) (afterRow n size (rowF r :: R) D') A9 A2 c9 cb2 lo wo.heap.size wr.drew (by rw [hdl]; omega) (by rw [hdl]; omega) (by rw [List.length_cons, HRL.out]) (by rw [HAL.out, HDL2.out]) HAD.out HRR.out (fun r0 h0 => HREST.out r0 (List.mem_of_mem_drop h0)) (by rw [hdl]; exact hcb2) (by have := HBD2.out.lt; omega) hlo hlow4 HO4.out hS2 HBB4.out HBC4.out HBY.out
              rw [hdl, ← hDD, show ((size + 1 : Nat) : Int) = (size : Int) + 1 by omega] at h
              exact h)
            have CKEEP : Hid (∀ w8, Moves dg (dg + 1) wr.drew w8 → w8.cell? ⟨cB, 0, none⟩ = some (.func (.func 106) #[] #[.pointer (some ⟨dB, 0, none⟩), .pointer (some ⟨cB, 0, none⟩)])) := Lib.hid (fun w8 h => by
              have h1 := Blk.moves (w := wr.drew) (w' := w8) HBC4.out h (by omega)
              rw [h1.cell]; rfl)
            have hq1 : (i : Int) + 1 ≤ (rest.length : Int) := by omega
            have hq2 : (rest.length : Int) ≤ (cb : Int) := by omega
            have hq3 : (0 : Int) ≤ (i : Int) + 1 := by omega
            have hq4 : i + 1 ≤ rest.length := by omega
            have z1 : IntKind.i64.wrap ((i : Int) + 1) = (i : Int) + 1 := by rw [IntKind.wrap_i64]; omega
            have z2 : ((i : Int) + 1).toNat = i + 1 := by omega
            have z3 : IntKind.i64.wrap ((size : Int) + 1) = (size : Int) + 1 := by rw [IntKind.wrap_i64]; omega
            have HDRL := Lib.hid hdl
            clear c1 hre2 hdl hDD hBw hbx
            by_cases hcq : cb = i + 1
            · have HZ := Lib.hid (show rest.length - (i + 1) = 0 by omega)
              have HI0 : ∀ (A2 : Option Addr) (cb2 : Nat), 0 ≤ cb2 → IntSS wr lo A2 (rest.drop (i + 1)) → Hid (Calls Try.prog 106 #[.int .i64 ((size : Int) + 1), .slice A9 K c9, .slice A2 0 cb2, .pointer (some ⟨dB, 0, none⟩), .pointer (some ⟨cB, 0, none⟩)] wr.drew (Collected wr.drew dg DD)) := fun A2 cb2 h1 h2 => by
                have h := HI A2 cb2 (by rw [HZ.out]; exact h1) h2
                rw [HZ.out] at h
                exact h
              have hq8 : (rest.length : Int) ≤ (i : Int) + 1 := by omega
              clear hss
              subst hcq
              go_wp2_with fail
              go_region_held3 (fun w' => w'.cell? ⟨cB, 0, none⟩ = some (.func (.func 106) #[] #[.pointer (some ⟨dB, 0, none⟩), .pointer (some ⟨cB, 0, none⟩)]))
                (first
                  | exact d1
                  | exact CKEEP.out _ hm8)
                ((go_at_call 106; refine (HI0 (some ⟨b, off, none⟩) 0 (Nat.le_refl _) (fun h => absurd h (by rw [HDRL.out, HZ.out]; omega))).out.mono ?_; rintro e w8 ⟨rfl, hd8, hm8⟩))
              have HD8 := Lib.hid hd8
              have HM8 := Lib.hid (HBW.out.trans (Moves.trans (w' := wr.drew) ⟨rfl, rfl, rfl, Nat.le_refl _, fun _ _ _ => rfl⟩ hm8))
              clear hd8 hm8
              go_wp2
              exact ⟨⟨i + 1, DD, by omega, by go_num, by rw [HCL.out, HAL.out, HDL2.out], HCB.out, HC2.out, HD8.out, HM8.out⟩, by simp [intOf]; omega⟩
            · have HTAIL : Hid (IntSS wr lo (some ⟨b, off + (i + 1), none⟩) (rest.drop (i + 1))) := Lib.hid (fun hn => by
                obtain ⟨b2, o2, e2, hb2, hc2⟩ := hss (by omega)
                injection e2 with e2
                injection e2 with e3 e4
                subst e3
                subst e4
                refine ⟨b, off + (i + 1), rfl, hb2, fun j r0 hr0 => ?_⟩
                rw [List.getElem?_drop] at hr0
                have := hc2 (i + 1 + j) r0 hr0
                rw [Nat.add_assoc]
                exact this)
              clear hss
              go_wp2_with fail
              go_region_held3 (fun w' => w'.cell? ⟨cB, 0, none⟩ = some (.func (.func 106) #[] #[.pointer (some ⟨dB, 0, none⟩), .pointer (some ⟨cB, 0, none⟩)]))
                (first
                  | exact d1
                  | exact CKEEP.out _ hm8)
                ((go_at_call 106; refine (HI (some ⟨b, off + (i + 1), none⟩) _ (by omega) HTAIL.out).out.mono ?_; rintro e w8 ⟨rfl, hd8, hm8⟩))
              have HD8 := Lib.hid hd8
              have HM8 := Lib.hid (HBW.out.trans (Moves.trans (w' := wr.drew) ⟨rfl, rfl, rfl, Nat.le_refl _, fun _ _ _ => rfl⟩ hm8))
              clear hd8 hm8
              go_wp2
              exact ⟨⟨i + 1, DD, by omega, by go_num, by rw [HCL.out, HAL.out, HDL2.out], HCB.out, HC2.out, HD8.out, HM8.out⟩, by simp [intOf]; omega⟩
      · have hie : i = rest.length := by omega
        have HFIN := Lib.hid (show collectF n size R (rest.map rowF) D = D' by rw [HCOL.out, hie, List.drop_length]; rfl)
        clear hie
        go_wp2
        go_end0
        exact ⟨rfl, by rw [HFIN.out]; exact HBD2.out, HMV.out⟩
end Go.Proofs.Ytmehdngibbilaaa

/- The program's InvariantFactors. -/
namespace Go.Proofs.Ytmehdngibbilaaa
open Go.RowKit

theorem collect_divs {rs : List (List Int)} (h6 : rs.length ≤ 6) : collectF rs.length 0 [] (rs.map rowF) (List.replicate rs.length 0) = divsB rs := by
  have hm : rs.map rowF = (List.range rs.length).map (rowAt rs) := (pick_all rs).symm
  apply List.ext_getElem?
  intro k
  by_cases hk : k < rs.length
  · rw [divsB_at hk]
    have h := collect_sets (k := k) (rowAt rs) h6 hk
    rw [← hm] at h
    have hl : k < (collectF rs.length 0 [] (rs.map rowF) (List.replicate rs.length 0)).length := by rw [collectF_len]; simpa using hk
    rw [List.getD_eq_getElem?_getD, List.getElem?_eq_getElem hl, Option.getD_some] at h
    rw [List.getElem?_eq_getElem hl, h]
  · rw [List.getElem?_eq_none (by rw [collectF_len]; simpa using hk), List.getElem?_eq_none (by rw [divsB_len]; omega)]
set_option maxRecDepth 100000 in
set_option maxHeartbeats 4000000 in
theorem minorDivisors_any (A : Option Addr) (c : Nat) (rs : List (List Int)) (w : World) (hc : rs.length ≤ c) (h6 : rs.length ≤ 6) (hent : ∀ r ∈ rs, r.length = rs.length ∧ ∀ x ∈ r, -500 ≤ x ∧ x ≤ 500) (hS : IntSS w w.heap.size A rs) :
    Calls Try.prog 60 #[.slice A rs.length c] w (GivesInts w (natI (divsB rs))) := by
  have hmk := make_ints rs.length (by omega)
  have HNR0 : ∀ w, Calls Try.prog 109 #[.int .i64 (rs.length : Int)] w (GivesV w (2 ^ rs.length) (vals rs.length [])) := fun w => (noRows_any rs.length w h6).mono fun e w' ⟨A9, c9, he, ho, hb⟩ => by
    have hcv : chipsOf (2 ^ rs.length) (minorA rs.length []) = vals rs.length [] := chips_vals (by simp) (fun r h => by simp at h)
    rw [hcv] at he ho
    exact ⟨A9, c9, by rw [he, vals_len], ho, hb⟩
  have HNR := fun w => Lib.hid (HNR0 w)
  have HCA := Lib.hid (fun t dB dg cB h1 h2 => collect_any rs.length h6 t dB dg cB h1 h2)
  obtain ⟨K, hK⟩ : ∃ K, K = 2 ^ rs.length := ⟨_, rfl⟩
  rw [← hK] at HNR HCA
  have HCD := Lib.hid (collect_divs h6)
  have HDL := Lib.hid (divsB_len rs)
  have HS := Lib.hid hS
  have HENT := Lib.hid hent
  have HRZ := Lib.hid (show intCells (List.replicate rs.length 0) = intCells (natI (List.replicate rs.length 0)) by simp [natI])
  have hmf : ∀ (fn : Fn) (first cap : Array Value) (w : World), (Instr.makeFunc fn first cap).run Try.prog w = .ok (.func fn first cap) w := fun _ _ _ _ => rfl
  obtain ⟨W0, hW0⟩ : ∃ W0, W0 = (w.alloc (Obj.cells (intCells (List.replicate rs.length 0)).toArray 3)).alloc (Obj.cells #[.slice (some ⟨w.heap.size, 0, none⟩) rs.length rs.length] 27) := ⟨_, rfl⟩
  have hsz0 : W0.heap.size = w.heap.size + 1 + 1 := by rw [hW0, World.size_alloc, World.size_alloc]
  have hcl : (W0.alloc (Obj.cells #[.nilFunc] 109)).cell? ⟨w.heap.size + 1 + 1, 0, none⟩ = some .nilFunc := by
    have h := Blk.new W0 109 #[.nilFunc]
    rw [hsz0] at h
    rw [h.cell]; rfl
  have hfz : (W0.alloc (Obj.cells #[.nilFunc] 109)).frozen? ⟨w.heap.size + 1 + 1, 0, none⟩ = false := by
    have h := Blk.new W0 109 #[.nilFunc]
    rw [hsz0] at h
    exact h.frozen 0
  have hk5 : Blk (W0.alloc (Obj.cells #[(.func (.func 106) #[] #[.pointer (some ⟨w.heap.size + 1, 0, none⟩), .pointer (some ⟨w.heap.size + 1 + 1, 0, none⟩)])] 109)) w.heap.size 3 (intCells (List.replicate rs.length 0)).toArray := by rw [hW0]; exact ((Blk.new w _ _).alloc _).alloc _
  have hk4 : Blk (W0.alloc (Obj.cells #[(.func (.func 106) #[] #[.pointer (some ⟨w.heap.size + 1, 0, none⟩), .pointer (some ⟨w.heap.size + 1 + 1, 0, none⟩)])] 109)) (w.heap.size + 1) 27 #[.slice (some ⟨w.heap.size, 0, none⟩) rs.length rs.length] := by
    rw [hW0]
    have h := (Blk.new (w.alloc (Obj.cells (intCells (List.replicate rs.length 0)).toArray 3)) 27 #[.slice (some ⟨w.heap.size, 0, none⟩) rs.length rs.length]).alloc (Obj.cells #[(.func (.func 106) #[] #[.pointer (some ⟨w.heap.size + 1, 0, none⟩), .pointer (some ⟨w.heap.size + 1 + 1, 0, none⟩)])] 109)
    rwa [World.size_alloc] at h
  have hk3 : Blk (W0.alloc (Obj.cells #[(.func (.func 106) #[] #[.pointer (some ⟨w.heap.size + 1, 0, none⟩), .pointer (some ⟨w.heap.size + 1 + 1, 0, none⟩)])] 109)) (w.heap.size + 1 + 1) 109 #[(.func (.func 106) #[] #[.pointer (some ⟨w.heap.size + 1, 0, none⟩), .pointer (some ⟨w.heap.size + 1 + 1, 0, none⟩)])] := by
    have h := Blk.new W0 109 #[(.func (.func 106) #[] #[.pointer (some ⟨w.heap.size + 1, 0, none⟩), .pointer (some ⟨w.heap.size + 1 + 1, 0, none⟩)])]
    rwa [hsz0] at h
  have hb4 : Below w.heap.size w (W0.alloc (Obj.cells #[(.func (.func 106) #[] #[.pointer (some ⟨w.heap.size + 1, 0, none⟩), .pointer (some ⟨w.heap.size + 1 + 1, 0, none⟩)])] 109)) := by rw [hW0]; exact (((Below.refl _ _).alloc (Nat.le_refl _) _).alloc (by simp) _).alloc (by simp; omega) _
  obtain ⟨W4, hW4⟩ : ∃ W4, W4 = W0.alloc (Obj.cells #[(.func (.func 106) #[] #[.pointer (some ⟨w.heap.size + 1, 0, none⟩), .pointer (some ⟨w.heap.size + 1 + 1, 0, none⟩)])] 109) := ⟨_, rfl⟩
  rw [← hW4] at hk3 hk4 hk5 hb4
  rw [hW0] at hcl hfz hW4
  rw [HRZ.out] at hk5
  have HK3 := Lib.hid hk3
  have HK4 := Lib.hid hk4
  have HK5 := Lib.hid hk5
  have HB4 := Lib.hid hb4
  clear hS hent hK HNR0 hk3 hk4 hk5 hb4 hW0 hsz0
  go_enter Try.func60, Try.ntmps60
  go_wp2_with fail
  rw [← hW4]
  have d1 : W4.cell? ⟨w.heap.size + 1 + 1, 0, none⟩ = some (.func (.func 106) #[] #[.pointer (some ⟨w.heap.size + 1, 0, none⟩), .pointer (some ⟨w.heap.size + 1 + 1, 0, none⟩)]) := by rw [HK3.out.cell]; rfl
  have hs4 := HB4.out.size
  have hl3 : w.heap.size + 1 + 1 < W4.heap.size := HK3.out.lt
  have FIN : ∀ (w5 : World) (A5 : Option Addr) (c5 : Nat), OwnI w5 W4.heap.size A5 (vals rs.length []) → Below W4.heap.size W4 w5 → Hid (Calls Try.prog 106 #[.int .i64 0, .slice A5 K c5, .slice A rs.length c, .pointer (some ⟨w.heap.size + 1, 0, none⟩), .pointer (some ⟨w.heap.size + 1 + 1, 0, none⟩)] w5 (Collected w5 w.heap.size (divsB rs))) := fun w5 A5 c5 ho hb => Lib.hid (by
    have h := HCA.out 109 (w.heap.size + 1) w.heap.size (w.heap.size + 1 + 1) (by omega) (by omega) rs.length rs 0 [] (List.replicate rs.length 0) A5 A c5 c w.heap.size W4.heap.size w5 (Nat.le_refl _) (by omega) rfl (by simp) (fun d hd => by rw [List.eq_of_mem_replicate hd]; omega) (fun r hr => by simp at hr) HENT.out hc (by omega) (Nat.le_refl _) (by have := hb.size; omega) ho (HS.out.keep (fun p hp => ((hb.mono hs4).cell hp).trans (HB4.out.cell hp)) (Nat.le_refl _)) (HK4.out.below hb (by omega)) (HK3.out.below hb hl3) (HK5.out.below hb (by omega))
    rw [HCD.out] at h
    exact h)
  have KEEP : ∀ (w5 w6 : World), Below W4.heap.size W4 w5 → Moves w.heap.size (w.heap.size + 1) w5 w6 → w6.cell? ⟨w.heap.size + 1 + 1, 0, none⟩ = some (.func (.func 106) #[] #[.pointer (some ⟨w.heap.size + 1, 0, none⟩), .pointer (some ⟨w.heap.size + 1 + 1, 0, none⟩)]) := fun w5 w6 hb hm => by
    rw [((HK3.out.below hb hl3).moves hm (by omega)).cell]; rfl
  have KEEP2 : ∀ (w5 : World), Below W4.heap.size W4 w5 → w5.cell? ⟨w.heap.size + 1 + 1, 0, none⟩ = some (.func (.func 106) #[] #[.pointer (some ⟨w.heap.size + 1, 0, none⟩), .pointer (some ⟨w.heap.size + 1 + 1, 0, none⟩)]) := fun w5 hb => by
    rw [(HK3.out.below hb hl3).cell]; rfl
  have HFIN := Lib.hid FIN
  have HKEEP := Lib.hid KEEP
  have HKEEP2 := Lib.hid KEEP2
  clear FIN KEEP KEEP2 hW4 HK5 hcl hfz
  go_region_held3 (fun w' => w'.cell? ⟨w.heap.size + 1 + 1, 0, none⟩ = some (.func (.func 106) #[] #[.pointer (some ⟨w.heap.size + 1, 0, none⟩), .pointer (some ⟨w.heap.size + 1 + 1, 0, none⟩)]))
    (first
      | exact d1
      | exact HKEEP2.out _ hb5
      | exact HKEEP.out _ _ hb5 hm6)
    (first
      | (go_at_call 109; refine (HNR _).out.mono ?_; rintro e w5 ⟨A5, c5, rfl, ho5, hb5'⟩; have hb5 : Below W4.heap.size W4 w5 := (Below.refl W4.heap.size W4).drew.trans hb5')
      | (go_at_call 106; refine (HFIN.out _ _ _ ho5 hb5).out.mono ?_; rintro e w6 ⟨rfl, hd6, hm6⟩))
  have hk6 : Blk w6 (w.heap.size + 1) 27 #[.slice (some ⟨w.heap.size, 0, none⟩) rs.length rs.length] := (HK4.out.below hb5 (by omega)).moves hm6 (by omega)
  have hc6 : w6.cell? ⟨w.heap.size + 1, 0, none⟩ = some (.slice (some ⟨w.heap.size, 0, none⟩) rs.length rs.length) := by rw [hk6.cell]; rfl
  have HD6 := Lib.hid hd6
  have HB6 := Lib.hid (belowMoves (HB4.out.trans (hb5.mono hs4)) hm6 (Nat.le_refl _) (by have := hb5.size; omega))
  have HLEN := Lib.hid (natI_len (divsB rs))
  clear hd6 hm6 hb5 ho5 hk6
  go_wp2
  go_ret
  exact ⟨some ⟨w.heap.size, 0, none⟩, rs.length, by rw [HLEN.out, HDL.out]; rfl, OwnI.of_blk HD6.out (Nat.le_refl _), HB6.out⟩
end Go.Proofs.Ytmehdngibbilaaa

/- The program's InvariantFactors, whole. -/
namespace Go.Proofs.Ytmehdngibbilaaa
open Go.RowKit

theorem divsB_le {rs : List (List Int)} (h6 : rs.length ≤ 6) (h : ∀ r ∈ rs, r.length = rs.length ∧ ∀ x ∈ r, -500 ≤ x ∧ x ≤ 500) : ∀ d ∈ divsB rs, d ≤ 7500000000000000000 := fun d hd => by
  simp only [divsB, List.mem_map, List.mem_range] at hd
  obtain ⟨k, hk, rfl⟩ := hd
  refine gcdL_le _ _ (Nat.zero_le _) (fun x hx => ?_)
  simp only [List.mem_flatMap, List.mem_map] at hx
  obtain ⟨R, hR, C, hC, rfl⟩ := hx
  have h1 := ((sets_size rs.length h6 (k + 1) (by omega)).2 R hR).1
  have h2 := ((sets_size rs.length h6 (k + 1) (by omega)).2 C hC).1
  have h3 := det_in h (R := R) (C := C) (by omega) (by omega)
  unfold absB at h3
  omega
theorem fac_break {F P Gs : List Nat} {b j : Nat} (h : F = P ++ facB b (Gs.drop j)) (hg : Gs[j]? = some 0) : F = P ++ List.replicate (Gs.length - j) 0 := by
  obtain ⟨hj, hg2⟩ := List.getElem?_eq_some_iff.1 hg
  rw [h, List.drop_eq_getElem_cons hj, hg2, facB, if_pos (.inr rfl), facB_zero, List.length_drop]
  have : Gs.length - j = (Gs.length - (j + 1)) + 1 := by omega
  rw [this, List.replicate_succ]
theorem put_next {P : List Nat} {n x : Nat} (h : P.length < n) : (P ++ List.replicate (n - P.length) 0).set P.length x = (P ++ [x]) ++ List.replicate (n - (P.length + 1)) 0 := by
  have : n - P.length = (n - (P.length + 1)) + 1 := by omega
  rw [List.set_append_right _ _ (Nat.le_refl _), Nat.sub_self, this, List.replicate_succ]
  simp
def GivesIntsK (w : World) (zs : List Int) (e : Ending) (w' : World) : Prop :=
  ∃ (A : Option Addr) (c : Nat), e = .returned (.slice A zs.length c) ∧ zs.length ≤ c ∧ OwnI w' w.heap.size A zs ∧ Below w.heap.size w w'
theorem GivesIntsK.plain {w w' : World} {zs : List Int} {e : Ending} (h : GivesIntsK w zs e w') : GivesInts w zs e w' := by
  obtain ⟨A, c, h1, -, h2⟩ := h
  exact ⟨A, c, h1, h2⟩
set_option maxRecDepth 100000 in
set_option maxHeartbeats 4000000 in
theorem implInv_yes (A : Option Addr) (c : Nat) (rs : List (List Int)) (w : World) (hc : rs.length ≤ c) (hB : matB rs = true) (hS : IntSS w w.heap.size A rs) :
    Calls Try.prog 17 #[.slice A rs.length c] w (GivesIntsK w (natI (facB 1 (divsB rs)))) := by
  obtain ⟨h6, hent⟩ := matB_entries hB
  have hmk := make_ints rs.length (by omega)
  have HM := Lib.hid (implMatrixOk A c rs w (by omega) (fun r hr => by have := (hent r hr).1; omega) hS)
  rw [hB] at HM
  have HMD := fun w h => Lib.hid (minorDivisors_any A c rs w hc h6 hent h)
  have HS := Lib.hid hS
  have HLE := Lib.hid (divsB_le h6 hent)
  have hDL := divsB_len rs
  obtain ⟨Gs, hGs⟩ : ∃ Gs, Gs = divsB rs := ⟨_, rfl⟩
  rw [← hGs] at HMD HLE hDL ⊢
  obtain ⟨F, hF⟩ : ∃ F, F = facB 1 Gs := ⟨_, rfl⟩
  have HF := Lib.hid hF
  have HFL := Lib.hid (show F.length = rs.length by rw [hF, facB_len, hDL])
  rw [← hF]
  obtain ⟨n, hn⟩ : ∃ n, n = rs.length := ⟨_, rfl⟩
  rw [← hn] at HM HMD hDL h6 hmk HFL ⊢
  have HDL := Lib.hid hDL
  have HRZ := Lib.hid (show intCells (List.replicate n 0) = intCells (natI ([] ++ List.replicate (n - 0) 0)) by simp [natI])
  have HNL := Lib.hid (natI_len Gs)
  clear hB hent hS hGs hF hn hDL
  go_enter Try.func17, Try.ntmps17
  go_wp2_with fail
  refine HM.out.mono ?_
  rintro e w1 ⟨rfl, hb1⟩
  have hs1 := hb1.size
  have hb2 : Below w.heap.size w (w1.alloc (Obj.cells (intCells (List.replicate n 0)).toArray 3)) := hb1.alloc hs1 _
  have hk2 := Blk.new w1 3 (intCells (List.replicate n 0)).toArray
  rw [HRZ.out] at hk2 hb2
  have HK2 := Lib.hid hk2
  have HB2 := Lib.hid hb2
  obtain ⟨fb, hfb⟩ : ∃ fb, fb = w1.heap.size := ⟨_, rfl⟩
  rw [← hfb] at HK2
  have hfb1 : w.heap.size ≤ fb := by omega
  clear hb1 hb2 hk2
  go_wp2_with fail
  rw [HRZ.out, ← hfb]
  obtain ⟨w2, hw2⟩ : ∃ w2, w2 = w1.alloc (Obj.cells (intCells (natI ([] ++ List.replicate (n - 0) 0))).toArray 3) := ⟨_, rfl⟩
  rw [← hw2] at HK2 HB2 ⊢
  have hfl := HK2.out.lt
  clear hw2 hfb
  refine (HMD _ (HS.out.up_ HB2.out)).out.mono ?_
  rintro e w3 ⟨A3, c3, rfl, ho3, hb3⟩
  rw [HNL.out, HDL.out]
  have HO3 := Lib.hid ho3
  have HK3 := Lib.hid (HK2.out.below hb3 hfl)
  have hs3 := hb3.size
  have HB3 := Lib.hid (HB2.out.trans (hb3.mono HB2.out.size))
  clear ho3 hb3
  go_wp2_with fail
  go_loopw [4, 16] (fun bv iv wr => ∃ (k b : Nat) (P : List Nat), k ≤ n ∧ iv = .int .i64 k ∧ bv = .int .i64 (b : Int) ∧ 1 ≤ b ∧ b ≤ 7500000000000000000 ∧ P.length = k ∧ F = P ++ facB b (Gs.drop k) ∧ Blk wr fb 3 (intCells (natI (P ++ List.replicate (n - k) 0))).toArray ∧ Moves fb (fb + 1) w3 wr) (fun _ iv _ => n - (intOf iv).toNat)
  case atStart => exact ⟨0, 1, [], Nat.zero_le _, rfl, rfl, by omega, by omega, rfl, by rw [HF.out]; rfl, HK3.out, Moves.refl _ _ _⟩
  case round =>
    obtain ⟨k, b, P, hk, rfl, rfl, hb0, hb1, hP, hFP, hbk, hmv⟩ := hrel
    have HP := Lib.hid hP
    have HFP := Lib.hid hFP
    have HBK := Lib.hid hbk
    have HMV := Lib.hid hmv
    have HBW := Lib.hid (belowMoves HB3.out hmv hfb1 HB3.out.size)
    have hcell : ∀ (x : Nat), (P ++ List.replicate (n - k) 0)[k]? = some x → wr.cell? ⟨fb, k, none⟩ = some (.int .i64 (x : Int)) := fun x hx => blk_get hbk (natI_at hx)
    have hfr := hbk.frozen k
    clear hFP hbk hmv
    by_cases hlt : k < n
    · obtain ⟨d, hd⟩ : ∃ d, Gs[k]? = some d := ⟨_, List.getElem?_eq_getElem (by rw [HDL.out]; exact hlt)⟩
      obtain ⟨b9, o9, rfl, hb91, hb92, hc9⟩ := HO3.out (by rw [HNL.out, HDL.out]; omega)
      have hcd := (hc9 k _ (natI_at hd)).1
      have hcd2 : wr.cell? ⟨b9, o9 + k, none⟩ = some (.int .i64 (d : Int)) := (World.cell?_of_block (a := ⟨b9, o9 + k, none⟩) (HMV.out.block b9 (by omega) (by omega))).trans hcd
      have hk0 : (0 : Int) ≤ (k : Int) := Int.natCast_nonneg _
      have hk1 : (k : Int) < (n : Int) := by omega
      have hdle := HLE.out d (List.mem_of_getElem? hd)
      have hck : wr.cell? ⟨fb, k, none⟩ = some (.int .i64 ((0 : Nat) : Int)) := hcell 0 (by
        rw [List.getElem?_append_right (by omega), hP, Nat.sub_self, show n - k = (n - k - 1) + 1 by omega, List.replicate_succ]
        rfl)
      have HD := Lib.hid hd
      clear hcell hcd hc9 hd hP
      by_cases hd0 : d = 0
      · have t1 : ((d : Int) == 0) = true := by simp [hd0]
        have hg0 := HD.out
        rw [hd0] at hg0
        have hfin := fac_break HFP.out hg0
        rw [HDL.out] at hfin
        have HFIN := Lib.hid hfin
        have HLL := Lib.hid (natI_len F)
        clear hd0 hg0 hfin
        go_wp2
        go_ret
        exact ⟨some ⟨fb, 0, none⟩, n, by rw [HLL.out, HFL.out]; rfl, by rw [HLL.out, HFL.out]; exact Nat.le_refl _, by rw [HFIN.out]; exact OwnI.of_blk HBK.out hfb1, HBW.out⟩
      · have t1 : ((d : Int) == 0) = false := by simp [hd0]
        have hbz : ¬ (b : Int) = 0 := by omega
        have hbp : (1 : Int) ≤ (b : Int) := by omega
        have hdp : (0 : Int) ≤ (d : Int) := by omega
        have hdp2 : (d : Int) ≤ 7500000000000000000 := by omega
        obtain ⟨hq1, hq2⟩ := IntWalk.tdiv_le (d : Int) (b : Int) hdp hbp
        have HDV := Lib.hid (show (d : Int) / (b : Int) = ((d / b : Nat) : Int) by omega)
        have HFN := Lib.hid (fac_step HFP.out HD.out (by omega) hd0)
        have hset := HBK.out.set_ k (.int .i64 ((d : Int) / (b : Int)))
        have hpn := put_next (P := P) (n := n) (x := d / b) (by rw [HP.out]; exact hlt)
        rw [HP.out] at hpn
        rw [List.setIfInBounds_toArray, HDV.out, natI_set, hpn] at hset
        rw [← HDV.out] at hset
        have HSET := Lib.hid hset
        have HMN := Lib.hid (HMV.out.set_ k (.int .i64 ((d : Int) / (b : Int))))
        have HPN := Lib.hid (show (P ++ [d / b]).length = k + 1 by rw [List.length_append, HP.out]; rfl)
        have hdpos : 1 ≤ d := by omega
        clear hset hpn hd0
        go_wp2
        exact ⟨⟨k + 1, d, P ++ [d / b], by omega, by go_num, rfl, hdpos, hdle, HPN.out, HFN.out, HSET.out, HMN.out⟩, by simp [intOf]; omega⟩
    · have HE := Lib.hid (fac_end HFP.out (by rw [HDL.out]; omega))
      have hbk := HBK.out
      rw [show n - k = 0 by omega, List.replicate_zero, List.append_nil, ← HE.out] at hbk
      have HBF := Lib.hid hbk
      have HLL := Lib.hid (natI_len F)
      clear hbk hcell hP
      go_wp2
      go_ret
      exact ⟨some ⟨fb, 0, none⟩, n, by rw [HLL.out, HFL.out]; rfl, by rw [HLL.out, HFL.out]; exact Nat.le_refl _, OwnI.of_blk HBF.out hfb1, HBW.out⟩
theorem implInv_no (A : Option Addr) (c : Nat) (rs : List (List Int)) (w : World) (hn : rs.length ≤ 1048576) (hl : ∀ r ∈ rs, r.length ≤ 1048576) (hB : matB rs = false) (hS : IntSS w w.heap.size A rs) :
    Calls Try.prog 17 #[.slice A rs.length c] w (GivesIntsK w []) := by
  have HM := Lib.hid (implMatrixOk A c rs w (by omega) (fun r hr => by have := hl r hr; omega) hS)
  rw [hB] at HM
  clear hB hS hl
  go_enter Try.func17, Try.ntmps17
  go_wp2_with fail
  refine HM.out.mono ?_
  rintro e w1 ⟨rfl, hb1⟩
  go_wp2
  go_ret
  exact ⟨none, 0, rfl, Nat.zero_le _, OwnI.nil _ _ _, hb1⟩
theorem implInvC (A : Option Addr) (c : Nat) (rs : List (List Int)) (w : World) (hc : rs.length ≤ c) (hn : rs.length ≤ 1048576) (hl : ∀ r ∈ rs, r.length ≤ 1048576) (hS : IntSS w w.heap.size A rs) :
    Calls Try.prog 17 #[.slice A rs.length c] w (GivesIntsK w (invB rs)) := by
  cases h : matB rs with
  | false => rw [invB_f h]; exact implInv_no A c rs w hn hl h hS
  | true => rw [invB_t h]; exact implInv_yes A c rs w hc h hS
theorem implInv (A : Option Addr) (c : Nat) (rs : List (List Int)) (w : World) (hc : rs.length ≤ c) (hn : rs.length ≤ 1048576) (hl : ∀ r ∈ rs, r.length ≤ 1048576) (hS : IntSS w w.heap.size A rs) :
    Calls Try.prog 17 #[.slice A rs.length c] w (GivesInts w (invB rs)) := (implInvC A c rs w hc hn hl hS).mono fun _ _ h => h.plain
end Go.Proofs.Ytmehdngibbilaaa

/- NegateDivisor: the specification's appended numbers and the program's filled slice are one plain list. -/
namespace Go.Proofs.Ytmehdngibbilaaa
open Go.RowKit

def negB (xs : List Int) : List Int := xs.map fun x => wrap64 (-x)
theorem negB_length (xs : List Int) : (negB xs).length = xs.length := by simp [negB]
theorem negB_at {xs : List Int} {k : Nat} {x : Int} (h : xs[k]? = some x) : (negB xs)[k]? = some (wrap64 (-x)) := by simp [negB, h]
theorem partI_len0 (xs : List Int) : partI xs 0 = List.replicate xs.length 0 := by simp [partI]
set_option maxHeartbeats 1000000 in
theorem implNeg (A : Option Addr) (c : Nat) (xs : List Int) (w : World) (hn : xs.length ≤ 1048576) (hS : IntS w w.heap.size A xs) :
    Calls Try.prog 82 #[.slice A xs.length c] w (GivesInts w (negB xs)) := by
  have HS := Lib.hid hS
  have hmk := make_ints xs.length hn
  have HL := Lib.hid (negB_length xs)
  clear hS
  go_enter Try.func82, Try.ntmps82
  go_wp2
  go_loopw [11] (fun i wr => ∃ k : Nat, k ≤ xs.length ∧ i = .int .i64 k ∧ Blk wr w.heap.size 3 (intCells (partI (negB xs) k)).toArray ∧ Below w.heap.size w wr) (fun i _ => xs.length - (intOf i).toNat)
  case atStart =>
    refine ⟨0, Nat.zero_le _, rfl, ?_, (Below.refl _ _).alloc (Nat.le_refl _) _⟩
    rw [partI_len0, HL.out]
    exact Blk.new w _ _
  case round =>
    obtain ⟨k, hk, rfl, hblk, hb⟩ := hrel
    have HB := Lib.hid hblk
    clear hblk hmk
    by_cases hlt : k < xs.length
    · obtain ⟨b1, o1, x, rfl, hb1, he, hc0⟩ := (HS.out.below hb).at_ hlt
      have hi0 : (0 : Int) ≤ (k : Int) := Int.natCast_nonneg _
      have hi1 : (k : Int) < (xs.length : Int) := by omega
      have HX := Lib.hid (negB_at he)
      clear he
      have hf0 := HB.out.frozen k
      have hcl0 : wr.cell? ⟨w.heap.size, k, none⟩ = some (.int .i64 0) := by rw [HB.out.cell]; simp [intCells, partI_at (negB xs) k (by rw [HL.out]; exact hlt)]
      go_wp2
      exact ⟨⟨k + 1, by omega, by go_num, blk_partI HB.out HX.out, hb.setCell (Nat.le_refl _) _⟩, by simp [intOf]; omega⟩
    · have HB2 := HB.out
      rw [show k = (negB xs).length by rw [HL.out]; omega, partI_all] at HB2
      have HB3 := Lib.hid HB2
      clear HB2
      go_wp2
      go_ret
      exact ⟨some ⟨w.heap.size, 0, none⟩, xs.length, by rw [HL.out]; rfl, OwnI.of_blk HB3.out (Nat.le_refl _), hb⟩
end Go.Proofs.Ytmehdngibbilaaa

/- AddDivisors: the specification's appended sums and the program's filled slice are one plain list. -/
namespace Go.Proofs.Ytmehdngibbilaaa
open Go.RowKit

def sumsB (xs ys : List Int) : List Int := (List.range xs.length).map fun i => wrap64 (xs.getD i 0 + ys.getD i 0)
def addB (xs ys : List Int) : List Int := if xs.length = ys.length then sumsB xs ys else []
def sameLen (xs ys : List Int) : Bool := decide (xs.length = ys.length)
theorem sumsB_length (xs ys : List Int) : (sumsB xs ys).length = xs.length := by simp [sumsB]
theorem sumsB_at {xs ys : List Int} {k : Nat} {x y : Int} (h : xs[k]? = some x) (h2 : ys[k]? = some y) : (sumsB xs ys)[k]? = some (wrap64 (x + y)) := by
  have hk : k < xs.length := (List.getElem?_eq_some_iff.1 h).1
  simp [sumsB, hk, List.getD, h2]
  rw [List.getElem?_eq_getElem hk] at h
  injection h with h
  rw [h]

set_option maxHeartbeats 1000000 in
theorem implAddD (A C : Option Addr) (ca cc : Nat) (xs ys : List Int) (w : World) (hn : xs.length ≤ 1048576) (hm : ys.length ≤ 1048576) (h1 : IntS w w.heap.size A xs) (h2 : IntS w w.heap.size C ys) :
    Calls Try.prog 117 #[.slice A xs.length ca, .slice C ys.length cc] w (GivesIntsOk w (addB xs ys) (sameLen xs ys)) := by
  have HS := Lib.hid h1
  have HT := Lib.hid h2
  clear h1 h2
  by_cases hl : xs.length = ys.length
  · rw [addB, if_pos hl, sameLen, decide_eq_true hl]
    have t0 : ((xs.length : Int) != (ys.length : Int)) = false := by simp [hl]
    have hl1 : xs.length ≤ ys.length := by omega
    have hmk := make_ints xs.length hn
    have HL := Lib.hid (sumsB_length xs ys)
    clear hl
    go_enter Try.func117, Try.ntmps117
    go_wp2
    go_loopw [18] (fun i wr => ∃ k : Nat, k ≤ xs.length ∧ i = .int .i64 k ∧ Blk wr w.heap.size 3 (intCells (partI (sumsB xs ys) k)).toArray ∧ Below w.heap.size w wr) (fun i _ => xs.length - (intOf i).toNat)
    case atStart =>
      refine ⟨0, Nat.zero_le _, rfl, ?_, (Below.refl _ _).alloc (Nat.le_refl _) _⟩
      rw [partI_len0, HL.out]
      exact Blk.new w _ _
    case round =>
      obtain ⟨k, hk, rfl, hblk, hb⟩ := hrel
      have HB := Lib.hid hblk
      clear hblk hmk
      by_cases hlt : k < xs.length
      · obtain ⟨b1, o1, x, rfl, hb1, he, hc0⟩ := (HS.out.below hb).at_ hlt
        obtain ⟨b2, o2, y, rfl, hb2, hf, hd0⟩ := (HT.out.below hb).at_ (k := k) (by omega)
        have hi0 : (0 : Int) ≤ (k : Int) := Int.natCast_nonneg _
        have hi1 : (k : Int) < (xs.length : Int) := by omega
        have hi2 : (k : Int) < (ys.length : Int) := by omega
        have HX := Lib.hid (sumsB_at he hf)
        clear he hf
        have hf0 := HB.out.frozen k
        have hcl0 : wr.cell? ⟨w.heap.size, k, none⟩ = some (.int .i64 0) := by rw [HB.out.cell]; simp [intCells, partI_at (sumsB xs ys) k (by rw [HL.out]; exact hlt)]
        go_wp2
        go_region
        go_wp2
        exact ⟨⟨k + 1, by omega, by go_num, (blk_partI HB.out HX.out).drew, (hb.setCell (Nat.le_refl _) _).drew⟩, by simp [intOf]; omega⟩
      · have HB2 := HB.out
        rw [show k = (sumsB xs ys).length by rw [HL.out]; omega, partI_all] at HB2
        have HB3 := Lib.hid HB2
        clear HB2
        go_wp2
        go_ret2
        exact ⟨some ⟨w.heap.size, 0, none⟩, xs.length, by rw [HL.out]; rfl, OwnI.of_blk HB3.out (Nat.le_refl _), hb⟩
  · rw [addB, if_neg hl, sameLen, decide_eq_false hl]
    have t0 : ((xs.length : Int) != (ys.length : Int)) = true := by simp; omega
    clear hl
    go_enter Try.func117, Try.ntmps117
    go_wp2
    go_ret2
    exact ⟨none, 0, rfl, OwnI.nil _ _ _, Below.refl _ _⟩
end Go.Proofs.Ytmehdngibbilaaa
