/- slices.Clone and slices.Delete of one element, at edges (two cells an element). -/
import Derived.Test.YtbojbifpaecbcaaBA
import Derived.Deep.RegionLaw
import Derived.Deep.LoopGhost
import Derived.Lib.SliceRun
import Derived.Lib.LazyBuf
import Derived.Laws.IdiomCopy
import Derived.Laws.AppendOwn
import Derived.OwnWalk
import Derived.Shelf.RegionOpenPlain
namespace Go.Proofs.Ytbojbifpaecbcaa
open Go.RowKit

theorem run_clear_two {P : Program} (w : World) (t e ty : TypeId) (z u v : Value) (ht : P.underlying t = some (.slice e)) (hv : ∀ w, (zeroValue e).run P w = .ok z w) (hz : z.cells = #[u, v]) (hu1 : u.oneCell' = true) (hv1 : v.oneCell' = true) (b o c : Nat)
    (hc : ∀ j, j < 2 → (w.cell? ⟨b, o + j, none⟩).isSome = true) (hf : ∀ j, j < 2 → w.frozen? ⟨b, o + j, none⟩ = false) :
    (Builtin.clear_ #[t] ty #[.slice (some ⟨b, o, none⟩) 1 c]).run P w = .ok (.tuple #[]) (w.setCells b o [u, v]) := by
  have hzc : (Builtin.zeroCells z.cells 1).toList = [u, v] := by
    rw [hz]
    simp [Builtin.zeroCells]
    rfl
  have hst := run_storeCells_cells (P := P) b o [u, v] 0 w (by simpa using hc) (by simpa using hf) (by
    intro x hx
    simp only [List.mem_cons, List.not_mem_nil, or_false] at hx
    rcases hx with rfl | rfl
    · exact hu1
    · exact hv1)
  simp only [Nat.add_zero] at hst
  simp [Builtin.clear_, run_underlying ht, hv, hzc, hst]
theorem edgeZero : ∀ w, (zeroValue 36).run Try.prog w = .ok (.agg #[.int .i64 0, .int .i64 0]) w := Try.zeroValue36
theorem flat_one {es : List (Int × Int)} {u : Value} (h : u ∈ flat es) : u.oneCell' = true := by
  induction es with
  | nil => cases h
  | cons e l ih =>
    simp only [flat, List.mem_cons] at h
    rcases h with rfl | rfl | h
    · rfl
    · rfl
    · exact ih h
theorem heap_setCells_ne (g : Nat) : ∀ (vs : List Value) (o : Nat) (w : World) {k : Nat}, k ≠ g → (w.setCells g o vs).heap[k]? = w.heap[k]?
  | [], _, _, _, _ => rfl
  | v :: vs, o, w, k, h => by
    rw [World.setCells, heap_setCells_ne g vs _ _ h]
    exact Below.heap_setCell _ _ _ _ h
theorem erase_get (es : List (Int × Int)) (i k : Nat) : (es.eraseIdx i)[k]? = if k < i then es[k]? else es[k + 1]? := List.getElem?_eraseIdx
set_option maxRecDepth 100000 in
set_option maxHeartbeats 2000000 in
theorem delE_any (w : World) (g cap i j : Nat) (es : List (Int × Int)) (cs : Array Value) (hB : Blk w g 36 cs) (hcs : cs.toList.take (es.length * 2) = flat es) (hcap : es.length ≤ cap) (hn : es.length ≤ 1048576) (hi : i < es.length) (hj : j = i + 1) :
    Calls Try.prog 65 #[.slice (some ⟨g, 0, none⟩) es.length cap, .int .i64 i, .int .i64 j] w fun e w' =>
      e = .returned (.slice (some ⟨g, 0, none⟩) (es.length - 1) cap) ∧ OwnE w' g (some ⟨g, 0, none⟩) (es.eraseIdx i) ∧ Below g w w' ∧ ∀ k, k ≠ g → w'.heap[k]? = w.heap[k]? := by
  have hfl := flat_length es
  have hcell : ∀ k, k < es.length * 2 → w.cell? ⟨g, k, none⟩ = (flat es)[k]? := fun k hk => by
    rw [hB.cell, ← hcs, List.getElem?_take_of_lt hk, Array.getElem?_toList]
  have hsome : ∀ k, k < es.length * 2 → (w.cell? ⟨g, k, none⟩).isSome = true := fun k hk => by
    rw [hcell k hk, List.getElem?_eq_getElem (by omega)]
    rfl
  have hfro : ∀ k, w.frozen? ⟨g, k, none⟩ = false := fun k => hB.frozen k
  have hgl := hB.lt
  obtain ⟨news, hnews⟩ : ∃ news, news = flat (es.drop j) := ⟨_, rfl⟩
  have hlen : news.length = (es.length - j) * 2 := by rw [hnews, flat_length, List.length_drop]
  have hget : ∀ t, t < (es.length - j) * 2 → news[t]? = (flat es)[j * 2 + t]? := fun t ht => by
    obtain ⟨q, r, hr, hq⟩ : ∃ q r, r < 2 ∧ t = q * 2 + r := ⟨t / 2, t % 2, Nat.mod_lt _ (by omega), by omega⟩
    have hql : j + q < es.length := by omega
    have h1 := flat_at es (j + q) es[j + q] (List.getElem?_eq_getElem hql)
    have h2 := flat_at (es.drop j) q es[j + q] (by rw [List.getElem?_drop, List.getElem?_eq_getElem hql])
    rw [hnews, hq]
    rcases (show r = 0 ∨ r = 1 by omega) with rfl | rfl
    · rw [show j * 2 + (q * 2 + 0) = (j + q) * 2 by omega, Nat.add_zero, h1.1, h2.1]
    · rw [show j * 2 + (q * 2 + 1) = (j + q) * 2 + 1 by omega, h1.2, h2.2]
  obtain ⟨A, hA, hsrc⟩ : ∃ A : Addr, (if cap = j then some (⟨g, 0, none⟩ : Addr) else some ⟨g, j * 2, none⟩) = some A ∧ Hid (∀ t u, news[t]? = some u → w.drew.cell? (A.add t) = some u) := by
    by_cases h : cap = j
    · refine ⟨⟨g, 0, none⟩, by simp [h], Lib.hid fun t u hu => ?_⟩
      have h0 : news.length = 0 := by rw [hlen]; omega
      rw [List.length_eq_zero_iff.1 h0] at hu
      simp at hu
    · refine ⟨⟨g, j * 2, none⟩, by simp [h], Lib.hid fun t u hu => ?_⟩
      have ht : t < (es.length - j) * 2 := by
        have := (List.getElem?_eq_some_iff.1 hu).1
        rwa [hlen] at this
      rw [hget t ht] at hu
      rw [Addr.add_lit]
      show w.cell? ⟨g, j * 2 + t, none⟩ = some u
      rw [hcell _ (by omega), hu]
  have s2 : Hid (∀ u ∈ news, u.oneCell' = true) := Lib.hid fun u hu => flat_one (by rw [hnews] at hu; exact hu)
  have s3 : Hid (∀ t, t < news.length → (w.drew.cell? ⟨g, 0 + i * 2 + t, none⟩).isSome = true ∧ w.drew.frozen? ⟨g, 0 + i * 2 + t, none⟩ = false) := Lib.hid fun t ht => by
    rw [hlen] at ht
    exact ⟨hsome (0 + i * 2 + t) (by omega), hfro _⟩
  obtain ⟨W1, hW1⟩ : ∃ W1, W1 = w.drew.setCells g (0 + i * 2) news := ⟨_, rfl⟩
  have hin : ∀ t (ht : t < news.length), W1.cell? ⟨g, i * 2 + t, none⟩ = some news[t] := fun t ht => by
    have h := World.cell?_setCells_in g news (0 + i * 2) w.drew (fun q hq => (s3.out q hq).1) t ht
    rw [← hW1, Nat.zero_add] at h
    exact h
  have hout : ∀ k, k < i * 2 → W1.cell? ⟨g, k, none⟩ = w.cell? ⟨g, k, none⟩ := fun k hk => by
    rw [hW1]
    exact World.cell?_setCells_out g news (0 + i * 2) w.drew ⟨g, k, none⟩ (fun _ _ => .inl (by show k < 0 + i * 2; omega))
  have hfr1 : ∀ k, W1.frozen? ⟨g, k, none⟩ = false := fun k => by
    rw [hW1, World.frozen?_setCells]
    exact hfro k
  have hs1 : ∀ k, k < es.length * 2 → (W1.cell? ⟨g, k, none⟩).isSome = true := fun k hk => by
    by_cases h1 : k < i * 2
    · rw [hout k h1]
      exact hsome k hk
    · by_cases h2 : k - i * 2 < news.length
      · rw [show k = i * 2 + (k - i * 2) by omega, hin _ h2]
        rfl
      · have h3 : W1.cell? ⟨g, k, none⟩ = w.cell? ⟨g, k, none⟩ := by
          rw [hW1]
          exact World.cell?_setCells_out g news (0 + i * 2) w.drew ⟨g, k, none⟩ (fun _ _ => .inr (by show 0 + i * 2 + news.length ≤ k; omega))
        rw [h3]
        exact hsome k hk
  have hm : es.length - (i + (es.length - j)) = 1 := by omega
  have hcl : ∀ ty, (Builtin.clear_ #[23] ty #[.slice (some ⟨g, (i + (es.length - j)) * 2, none⟩) (es.length - (i + (es.length - j))) (cap - (i + (es.length - j)))]).run Try.prog W1 = .ok (.tuple #[]) (W1.setCells g ((i + (es.length - j)) * 2) [.int .i64 0, .int .i64 0]) := fun ty => by
    rw [hm]
    exact run_clear_two W1 _ _ ty _ _ _ Try.underlying23 edgeZero rfl rfl rfl g ((i + (es.length - j)) * 2) _ (fun t ht => hs1 _ (by omega)) (fun t ht => hfr1 _)
  have HBW : Hid (Below g w (W1.setCells g ((i + (es.length - j)) * 2) [.int .i64 0, .int .i64 0])) := Lib.hid (by
    apply below_setCells (Nat.le_refl g)
    rw [hW1]
    exact below_setCells (Nat.le_refl g) _ _ _ (Below.refl g w).drew)
  have HE : Hid (OwnE (W1.setCells g ((i + (es.length - j)) * 2) [.int .i64 0, .int .i64 0]) g (some ⟨g, 0, none⟩) (es.eraseIdx i)) := Lib.hid (by
    intro _
    have hcl2 : ∀ k, k < (i + (es.length - j)) * 2 → (W1.setCells g ((i + (es.length - j)) * 2) [.int .i64 0, .int .i64 0]).cell? ⟨g, k, none⟩ = W1.cell? ⟨g, k, none⟩ := fun k hk =>
      World.cell?_setCells_out g _ _ W1 ⟨g, k, none⟩ (fun _ _ => .inl hk)
    have hfr2 : ∀ k, (W1.setCells g ((i + (es.length - j)) * 2) [.int .i64 0, .int .i64 0]).frozen? ⟨g, k, none⟩ = false := fun k => by
      rw [World.frozen?_setCells]
      exact hfr1 k
    refine ⟨g, 0, rfl, Nat.le_refl _, ?_, fun k e he => ?_⟩
    · exact Nat.lt_of_lt_of_le hgl HBW.out.size
    · rw [erase_get] at he
      simp only [Nat.zero_add]
      by_cases h1 : k < i
      · rw [if_pos h1] at he
        have hf := flat_at es k e he
        refine ⟨?_, ?_, hfr2 _, hfr2 _⟩
        · rw [hcl2 _ (by omega), hout _ (by omega), hcell _ (by omega), hf.1]
        · rw [hcl2 _ (by omega), hout _ (by omega), hcell _ (by omega), hf.2]
      · rw [if_neg h1] at he
        have hk : k + 1 < es.length := (List.getElem?_eq_some_iff.1 he).1
        have hf := flat_at es (k + 1) e he
        have hg1 : ∀ r, r < 2 → W1.cell? ⟨g, k * 2 + r, none⟩ = (flat es)[(k + 1) * 2 + r]? := fun r hr => by
          have h2 : k * 2 + r - i * 2 < news.length := by omega
          rw [show k * 2 + r = i * 2 + (k * 2 + r - i * 2) by omega, hin _ h2, ← List.getElem?_eq_getElem h2, hget _ (by omega)]
          congr 1
          omega
        refine ⟨?_, ?_, hfr2 _, hfr2 _⟩
        · have h3 := hg1 0 (by omega)
          simp only [Nat.add_zero] at h3
          rw [hcl2 _ (by omega), h3, hf.1]
        · have h3 := hg1 1 (by omega)
          rw [hcl2 _ (by omega), h3, hf.2])
  have HFR : Hid (∀ k, k ≠ g → (W1.setCells g ((i + (es.length - j)) * 2) [.int .i64 0, .int .i64 0]).heap[k]? = w.heap[k]?) := Lib.hid fun k hk => by
    rw [heap_setCells_ne _ _ _ _ hk, hW1, heap_setCells_ne _ _ _ _ hk]
    rfl
  have hW : Hid (W1 = w.drew.setCells g (0 + i * 2) news) := Lib.hid hW1
  have HL1 := Lib.hid hlen
  have hic : i ≤ cap := by omega
  have hjc : j ≤ cap := by omega
  have hij : i < j := by omega
  have hjn : j ≤ es.length := by omega
  have hlast : i + (es.length - j) = es.length - 1 := by omega
  have HLL := Lib.hid hlast
  obtain ⟨i0, hI, hz0, hz1, hz2⟩ := info_parts edgeInfo
  have mixed : Try.prog.follows .mixedOrders = true := by kernel_rfl
  clear hcell hsome hfro hgl hnews hget hin hout hfr1 hs1 hm hW1 hB hcs hlen hj hlast hfl
  go_enter Try.func65, Try.ntmps65
  go_wp2_with fail
  go_region_law_o (refine step_append_room rfl (.tmp 22) (.tmp 25) 23 rfl 36 i0 2 Try.underlying23 hI hz1 g 0 i cap (by simp [Act.eval, Act.put]) A (es.length - j) (cap - j) news (by simp [Act.eval, Act.put]) HL1.out hsrc.out s2.out (by omega) s3.out ?_; rw [← hW.out])
  go_wp2
  go_ret
  exact ⟨by rw [← HLL.out]; rfl, HE.out, HBW.out, HFR.out⟩
set_option maxRecDepth 100000 in
set_option maxHeartbeats 2000000 in
theorem cloneE_any (w : World) (b off c : Nat) (es : List (Int × Int)) (hn : es.length ≤ 1048576) (hE : EdgeS w w.heap.size (some ⟨b, off, none⟩) es) (h0 : 0 < es.length) :
    Calls Try.prog 61 #[.slice (some ⟨b, off, none⟩) es.length c] w fun e w' =>
      ∃ (g cap : Nat) (cs : Array Value), e = .returned (.slice (some ⟨g, 0, none⟩) es.length cap) ∧ w.heap.size ≤ g ∧ Blk w' g 36 cs ∧ cs.toList.take (es.length * 2) = flat es ∧ es.length ≤ cap ∧ cap ≤ maxLen ∧ Below w.heap.size w w' := by
  have q : ∀ (w : World) (a : Option Addr) (n c n' c' : Nat), (binOp .eql 23 (.slice a n c) (.slice none n' c')).run Try.prog w = .ok (.bool a.isNone) w := fun w a n c n' c' => Lib.run_eql_slice_nil w _ _ a n c n' c' Try.underlying23
  have HC : Hid (∀ (o : Obj) (j : Nat) (u : Value), (flat es)[j]? = some u → (w.alloc o).cell? ((⟨b, off, none⟩ : Addr).add j) = some u) := Lib.hid fun o j u hu => by
    obtain ⟨b', off', e', hb, hc⟩ := hE h0
    injection e' with e'
    injection e' with e1 e2 _
    subst e1
    subst e2
    apply Lib.cell?_alloc_some
    have hjl : j < es.length * 2 := by
      have := (List.getElem?_eq_some_iff.1 hu).1
      rwa [flat_length] at this
    obtain ⟨p, r, hr, hp⟩ : ∃ p r, r < 2 ∧ j = p * 2 + r := ⟨j / 2, j % 2, Nat.mod_lt _ (by omega), by omega⟩
    have hpl : p < es.length := by omega
    have h1 := flat_at es p es[p] (List.getElem?_eq_getElem hpl)
    have h2 := hc p es[p] (List.getElem?_eq_getElem hpl)
    rw [Addr.add_lit]
    rw [hp] at hu ⊢
    rcases (show r = 0 ∨ r = 1 by omega) with rfl | rfl
    · rw [Nat.add_zero, h1.1] at hu
      rw [Nat.add_zero, h2.1, hu]
    · rw [h1.2] at hu
      rw [← Nat.add_assoc, h2.2, hu]
  clear hE
  obtain ⟨i0, hI, hz0, hz1, hz2⟩ := info_parts edgeInfo
  go_enter Try.func61, Try.ntmps61
  go_wp2_with (at_builtin; refine wpList_append_own _ rfl _ _ 23 rfl w.heap.size 36 i0 (.agg #[.int .i64 0, .int .i64 0]) 2 16 Try.underlying23 hI hz0 hz1 hz2 rfl (by decide) _ _ _ rfl (World.ownsRow_made w #[] 0 (Nat.le_refl _) (Nat.zero_le _) (by simp)) ⟨b, off, none⟩ es.length c (flat es) rfl ?c0 ?c1 ?c2 ?c3 ?c4 ?c5 ?_)
  case c0 => exact flat_length es
  case c1 => exact HC.out _
  case c2 => exact fun u hu => flat_one hu
  case c3 => unfold maxLen; omega
  case c4 => omega
  case c5 => simp
  intro v' w1 hown hgrow _
  have hb4 : Below w.heap.size w w1 := ((Below.refl _ w).alloc (Nat.le_refl _) _).grown hgrow (by simp) (by intro k hk; simp [Value.ownBlock] at hk; omega)
  have HO := Lib.hid hown
  clear hown hgrow
  go_wp2
  go_ret
  obtain ⟨hl, h⟩ := HO.out
  rcases h with ⟨h1, h2⟩ | ⟨g, cap, cur, hv, hb, hh, hnc, hcm, hcs, htk⟩
  · exfalso
    omega
  · exact ⟨g, cap, cur, by rw [hv]; simp, hb, hh, by simpa using htk, by omega, hcm, hb4⟩
end Go.Proofs.Ytbojbifpaecbcaa
