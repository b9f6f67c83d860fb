/- One text out of several: RedS RedI Trees SetW Neg AddD. -/
import Derived.Test.YtdpojcgeblbfeaaTBE
import Derived.Test.YtdpojcgeblbfeaaTBD
import Derived.Test.YtdpojcgeblbfeaaTSh
import Derived.Test.YtdpojcgeblbfeaaTBA
set_option linter.all false
/- The specification's ReducedLaplacian. -/
namespace Go.Proofs.Ytdpojcgeblbfeaa
open Go.RowKit

theorem own_types2 {w : World} {base base2 e1 e2 s1 s2 n1 n2 : Nat} {v1 v2 : Value} {x1 x2 : List Value} (h1 : w.ownsRow base e1 s1 v1 n1 x1) (h2 : w.ownsRow base2 e2 s2 v2 n2 x2) (hne : e1 ≠ e2) : v1.ownBlock = none ∨ v1.ownBlock ≠ v2.ownBlock :=
  own_types (ownsRow_mono h1 (Nat.zero_le _)) (ownsRow_mono h2 (Nat.zero_le _)) hne
def SSOwn2 (w : World) (b1 b2 : Nat) (v : Value) (rs : List (List Int)) : Prop :=
  ∃ vs : List Value, w.ownsRow b1 28 1 v rs.length vs ∧ ∀ (i : Nat) (r : List Int), rs[i]? = some r → ∃ u, vs[i]? = some u ∧ QOwn w b2 u r
theorem SSOwn2.one {w : World} {b1 b2 : Nat} {v : Value} {rs : List (List Int)} (h : SSOwn2 w b1 b2 v rs) (hb : b1 ≤ b2) : SSOwn w b1 v rs := by
  obtain ⟨vs, h1, h2⟩ := h
  refine ⟨vs, h1, fun i r hr => ?_⟩
  obtain ⟨u, hu, hq⟩ := h2 i r hr
  exact ⟨u, hu, ownsRow_mono hq hb⟩
theorem SSOwn2.push {w w1 : World} {b1 b2 : Nat} {v v' u : Value} {rs : List (List Int)} {r : List Int} {vs : List Value} (h1 : w.ownsRow b1 28 1 v rs.length vs) (h2 : ∀ (i : Nat) (r : List Int), rs[i]? = some r → ∃ u, vs[i]? = some u ∧ QOwn w b2 u r)
    (hr : QOwn w b2 u r) (ho : w1.ownsRow b1 28 1 v' (rs.length + 1) (vs ++ [u])) (hg : w.grownBy w1 v.ownBlock) : SSOwn2 w1 b1 b2 v' (rs ++ [r]) := by
  have keep : ∀ {x : Value} {p : List Int}, QOwn w b2 x p → QOwn w1 b2 x p := fun hq => World.ownsRow.kept hq hg (own_types2 hq h1 (by decide))
  have hl : vs.length = rs.length := by have := h1.1; omega
  refine ⟨vs ++ [u], by simpa using ho, fun i p hp => ?_⟩
  rcases Nat.lt_or_ge i rs.length with l | l
  · rw [List.getElem?_append_left l] at hp
    obtain ⟨x, hx, hq⟩ := h2 i p hp
    exact ⟨x, by rw [List.getElem?_append_left (by omega)]; exact hx, keep hq⟩
  · rw [List.getElem?_append_right l] at hp
    have hi : i - rs.length = 0 := by
      have := (List.getElem?_eq_some_iff.1 hp).1
      simp at this
      omega
    rw [hi] at hp
    simp only [List.getElem?_cons_zero, Option.some.injEq] at hp
    subst hp
    exact ⟨u, by rw [List.getElem?_append_right (by omega), show i - vs.length = 0 by omega]; rfl, keep hr⟩
theorem SSOwn2.apart {w : World} {b1 b2 gL x o n c : Nat} {v : Value} {rs : List (List Int)} (h : SSOwn2 w b1 b2 v rs) (hn : 0 < rs.length) (hc : w.cell? ⟨gL, 0, none⟩ = some (.slice (some ⟨x, o, none⟩) n c)) (hx : x < b2) : v.ownBlock ≠ some gL := by
  obtain ⟨vs, h1, h2⟩ := h
  obtain ⟨u, hu, hq⟩ := h2 0 _ (List.getElem?_eq_getElem hn)
  intro e
  have := h1.cells e 0 u hu
  rw [Addr.add_lit, Nat.add_zero, hc] at this
  injection this with this
  subst this
  have := (World.ownsRow.lt hq x rfl).1
  omega
theorem SSOwn.at_ {w : World} {base : Nat} {v : Value} {rs : List (List Int)} {a : Nat} {r : List Int} (h : SSOwn w base v rs) (hr : rs[a]? = some r) (hz : 0 < r.length) :
    ∃ (g cap b c : Nat), v = .slice (some ⟨g, 0, none⟩) rs.length cap ∧ base ≤ g ∧ g < w.heap.size ∧ w.cell? ⟨g, a, none⟩ = some (.slice (some ⟨b, 0, none⟩) r.length c) ∧ r.length ≤ c ∧ base ≤ b ∧ b < w.heap.size ∧ ∀ (i : Nat) (x : Int), r[i]? = some x → w.cell? ⟨b, i, none⟩ = some (.int .i64 x) := by
  obtain ⟨vs, h1, h2⟩ := h
  obtain ⟨u, hu, hq⟩ := h2 a r hr
  have hal : a < rs.length := (List.getElem?_eq_some_iff.1 hr).1
  rcases h1.2 with ⟨_, e0⟩ | ⟨g, cap, cur, e, hb, hg, hnc, _, hcs, htk⟩
  · omega
  · have hob : v.ownBlock = some g := by rw [e]; rfl
    have hc := h1.cells hob a u hu
    rw [Addr.add_lit, Nat.zero_add] at hc
    rcases hq.2 with ⟨_, e0⟩ | ⟨b, c, cur2, e2, hb2, hg2, hnc2, _, _, _⟩
    · omega
    · refine ⟨g, cap, b, c, e, hb, (h1.lt g hob).2, by rw [hc, e2], hnc2, hb2, (World.ownsRow.lt hq b (by rw [e2]; rfl)).2, fun i x hx => ?_⟩
      have := World.ownsRow.cells hq (by rw [e2]; rfl) i (.int .i64 x) (by simp [intCells, hx])
      rwa [Addr.add_lit, Nat.zero_add] at this
theorem SSOwn2.keep {w w' : World} {b1 b2 : Nat} {v : Value} {rs : List (List Int)} (h : SSOwn2 w b1 b2 v rs) (hb : Below w.heap.size w w') : SSOwn2 w' b1 b2 v rs := by
  obtain ⟨vs, h1, h2⟩ := h
  refine ⟨vs, h1.kept (row := none) ⟨hb.os, hb.tape, hb.output, hb.size, fun i hi _ => hb.block i hi⟩ (Classical.em _), fun i r hr => ?_⟩
  obtain ⟨u, hu, hq⟩ := h2 i r hr
  exact ⟨u, hu, hq.below hb⟩
def SSOwnV (w : World) (base : Nat) (v : Value) (vs : List Value) (rs : List (List Int)) : Prop :=
  w.ownsRow base 28 1 v rs.length vs ∧ ∀ (i : Nat) (r : List Int), rs[i]? = some r → ∃ u, vs[i]? = some u ∧ QOwn w base u r
theorem SSOwnV.one {w : World} {base : Nat} {v : Value} {vs : List Value} {rs : List (List Int)} (h : SSOwnV w base v vs rs) : SSOwn w base v rs := ⟨vs, h.1, h.2⟩
theorem SSOwnV.keep {w w' : World} {base : Nat} {v : Value} {vs : List Value} {rs : List (List Int)} (h : SSOwnV w base v vs rs) (hb : Below w.heap.size w w') : SSOwnV w' base v vs rs := by
  obtain ⟨h1, h2⟩ := h
  refine ⟨h1.kept (row := none) ⟨hb.os, hb.tape, hb.output, hb.size, fun i hi _ => hb.block i hi⟩ (Classical.em _), fun i r hr => ?_⟩
  obtain ⟨u, hu, hq⟩ := h2 i r hr
  exact ⟨u, hu, hq.below hb⟩
theorem SSOwnV.far {w w1 : World} {base b1 n : Nat} {v out : Value} {us : List Value} {rs : List (List Int)} {xs : List Value} (h : SSOwnV w base v us rs) (ho : w.ownsRow b1 28 1 out n xs) (hne : v.ownBlock ≠ out.ownBlock) (hg : w.grownBy w1 out.ownBlock) : SSOwnV w1 base v us rs := by
  obtain ⟨h1, h2⟩ := h
  refine ⟨h1.kept hg (.inr hne), fun i r hr => ?_⟩
  obtain ⟨u, hu, hq⟩ := h2 i r hr
  exact ⟨u, hu, World.ownsRow.kept hq hg (own_types2 hq ho (by decide))⟩
end Go.Proofs.Ytdpojcgeblbfeaa

/- The program's ReducedLaplacian. -/
namespace Go.Proofs.Ytdpojcgeblbfeaa
open Go.RowKit Go.Sort Go.Shelf

instance : Inhabited Nat := ⟨0⟩
def RedSt (w : World) (g : Nat) (G : Nat → Nat) (rs : List (List Int)) (q M k : Nat) : Prop :=
  ∀ (i : Nat) (r : List Int), rs[i]? = some r → r.length = M ∧ w.frozen? ⟨g, i, none⟩ = false ∧ w.cell? ⟨g, i, none⟩ = some (.slice (some ⟨G i, 0, none⟩) (if i < k then M - 1 else M) M) ∧
    (i < k → ∀ (j : Nat) (z : Int), (r.eraseIdx q)[j]? = some z → w.cell? ⟨G i, j, none⟩ = some (.int .i64 z) ∧ w.frozen? ⟨G i, j, none⟩ = false) ∧ (k ≤ i → Blk w (G i) 3 (intCells r).toArray)
theorem RedSt.step {w w2 : World} {g q M k : Nat} {G : Nat → Nat} {rs : List (List Int)} {r : List Int} (h : RedSt w g G rs q M k) (hr : rs[k]? = some r) (hm : Moves (G k) (G k + 1) w w2) (hg : ∀ i, i < rs.length → G i ≠ g ∧ G i < w.heap.size)
    (hgl : g < w.heap.size) (hinj : ∀ i j, i < rs.length → j < rs.length → i ≠ j → G i ≠ G j) (hc : ∀ (j : Nat) (z : Int), (r.eraseIdx q)[j]? = some z → w2.cell? ⟨G k, j, none⟩ = some (.int .i64 z) ∧ w2.frozen? ⟨G k, j, none⟩ = false) :
    RedSt (w2.setCell ⟨g, k, none⟩ (.slice (some ⟨G k, 0, none⟩) (M - 1) M)) g G rs q M (k + 1) := by
  have hk : k < rs.length := (List.getElem?_eq_some_iff.1 hr).1
  intro i s hs
  have hi : i < rs.length := (List.getElem?_eq_some_iff.1 hs).1
  obtain ⟨h1, h2, h3, h4, h5⟩ := h i s hs
  have hgk := hg k hk
  have hbg := hm.block g hgl (by omega)
  have hfg : w2.frozen? ⟨g, i, none⟩ = w.frozen? ⟨g, i, none⟩ := World.frozen?_of_block (a := ⟨g, i, none⟩) hbg
  have hcg : w2.cell? ⟨g, i, none⟩ = w.cell? ⟨g, i, none⟩ := World.cell?_of_block (a := ⟨g, i, none⟩) hbg
  refine ⟨h1, by rw [World.frozen?_setCell, hfg]; exact h2, ?_, fun hik j z hz => ?_, fun hik => ?_⟩
  · by_cases e : i = k
    · subst e
      rw [World.cell?_setCell_same (h := hcg.trans h3), if_pos (by omega)]
    · rw [World.cell?_setCell_other (h := by intro q; injection q with _ q; exact e q.symm), hcg, h3]
      by_cases hik : i < k
      · rw [if_pos hik, if_pos (by omega)]
      · rw [if_neg hik, if_neg (by omega)]
  · have hgi := hg i hi
    rw [World.cell?_setCell_other (h := by intro q; injection q with q; exact hgi.1 q.symm), World.frozen?_setCell]
    by_cases e : i = k
    · subst e
      rw [hr] at hs
      injection hs with hs
      subst hs
      exact hc j z hz
    · have hne := hinj i k hi hk e
      have hbi := hm.block (G i) hgi.2 (by omega)
      rw [World.cell?_of_block (a := ⟨G i, j, none⟩) hbi, World.frozen?_of_block (a := ⟨G i, j, none⟩) hbi]
      exact h4 (by omega) j z hz
  · have hgi := hg i hi
    have hne := hinj i k hi hk (by omega)
    exact ((h5 (by omega)).moves hm (by omega)).far (Ne.symm (fun e => hgi.1 e.symm)) _
theorem RedSt.own {w : World} {g q M base : Nat} {G : Nat → Nat} {rs : List (List Int)} (h : RedSt w g G rs q M rs.length) (hq : q < M) (hgl : g < w.heap.size) (hgb : base ≤ g) (hg : ∀ i, i < rs.length → G i ≠ g ∧ G i < w.heap.size ∧ base ≤ G i) (hinj : ∀ i j, i < rs.length → j < rs.length → i ≠ j → G i ≠ G j) :
    OwnSS w base w.heap.size (some ⟨g, 0, none⟩) (rs.map fun r => r.eraseIdx q) := fun _ => by
  refine ⟨g, 0, G, rfl, hgb, hgl, Nat.le_refl _, fun i r hr => ?_, fun i j hi hj hne => hinj i j (by simpa using hi) (by simpa using hj) hne⟩
  rw [List.getElem?_map, Option.map_eq_some_iff] at hr
  obtain ⟨s, hs, rfl⟩ := hr
  have hi : i < rs.length := (List.getElem?_eq_some_iff.1 hs).1
  obtain ⟨h1, h2, h3, h4, h5⟩ := h i s hs
  have hgi := hg i hi
  refine ⟨some ⟨G i, 0, none⟩, M, ?_, fun _ => ⟨0, rfl, hgi.2.2, hgi.2.1, fun j z hz => ?_⟩, hgi.1⟩
  · rw [Nat.zero_add, h3, if_pos hi, List.length_eraseIdx_of_lt (by omega), h1]
  · rw [Nat.zero_add]
    exact h4 hi j z hz
end Go.Proofs.Ytdpojcgeblbfeaa

/- CountTrees: both sides. -/
namespace Go.Proofs.Ytdpojcgeblbfeaa
open Go.RowKit

end Go.Proofs.Ytdpojcgeblbfeaa

/- The specification's sets of numbers. -/
namespace Go.Proofs.Ytdpojcgeblbfeaa
open Go.RowKit

theorem SSOwnV.cell {w : World} {base : Nat} {v : Value} {vs : List Value} {rs : List (List Int)} (h : SSOwnV w base v vs rs) {a : Nat} {u : Value} (hu : vs[a]? = some u) :
    ∃ (g cap : Nat), v = .slice (some ⟨g, 0, none⟩) rs.length cap ∧ g < w.heap.size ∧ w.cell? ⟨g, a, none⟩ = some u := by
  obtain ⟨h1, _⟩ := h
  have ha : a < vs.length := (List.getElem?_eq_some_iff.1 hu).1
  have hl := h1.1
  rcases h1.2 with ⟨_, e0⟩ | ⟨g, cap, cur, e, hb, hg, hnc, _, hcs, htk⟩
  · omega
  · have hob : v.ownBlock = some g := by rw [e]; rfl
    have hc := h1.cells hob a u hu
    rw [Addr.add_lit, Nat.zero_add] at hc
    exact ⟨g, cap, e, (h1.lt g hob).2, hc⟩
theorem SSOwnV.ints {w : World} {base b n c : Nat} {v : Value} {vs : List Value} {rs : List (List Int)} (h : SSOwnV w base v vs rs) {a : Nat} {r : List Int} (hr : rs[a]? = some r) (hu : vs[a]? = some (.slice (some ⟨b, 0, none⟩) n c)) :
    ∀ (i : Nat) (x : Int), r[i]? = some x → w.cell? ⟨b, i, none⟩ = some (.int .i64 x) := fun i x hx => by
  obtain ⟨u, hu2, hq⟩ := h.2 a r hr
  rw [hu] at hu2
  injection hu2 with hu2
  subst hu2
  have := World.ownsRow.cells hq rfl i (.int .i64 x) (by simp [intCells, hx])
  rwa [Addr.add_lit, Nat.zero_add] at this
theorem SSOwnV.lt {w : World} {base b n c : Nat} {v : Value} {vs : List Value} {rs : List (List Int)} (h : SSOwnV w base v vs rs) {a : Nat} {r : List Int} (hr : rs[a]? = some r) (hu : vs[a]? = some (.slice (some ⟨b, 0, none⟩) n c)) : b < w.heap.size := by
  obtain ⟨u, hu2, hq⟩ := h.2 a r hr
  rw [hu] at hu2
  injection hu2 with hu2
  subst hu2
  exact (World.ownsRow.lt hq b rfl).2
end Go.Proofs.Ytdpojcgeblbfeaa

/- NegateDivisor: the specification's appended numbers and the program's filled slice are one plain list. -/
namespace Go.Proofs.Ytdpojcgeblbfeaa
open Go.RowKit

def negB (xs : List Int) : List Int := xs.map fun x => wrap64 (-x)
theorem negB_length (xs : List Int) : (negB xs).length = xs.length := by simp [negB]
theorem negB_at {xs : List Int} {k : Nat} {x : Int} (h : xs[k]? = some x) : (negB xs)[k]? = some (wrap64 (-x)) := by simp [negB, h]
theorem take_snocI {l : List Int} {k : Nat} {x : Int} (h : l[k]? = some x) : l.take (k + 1) = l.take k ++ [x] := by rw [List.take_add_one, h]; rfl


theorem partI_len0 (xs : List Int) : partI xs 0 = List.replicate xs.length 0 := by simp [partI]
set_option maxHeartbeats 1000000 in
theorem implNeg (A : Option Addr) (c : Nat) (xs : List Int) (w : World) (hn : xs.length ≤ 1048576) (hS : IntS w w.heap.size A xs) :
    Calls Try.prog 61 #[.slice A xs.length c] w (GivesInts w (negB xs)) := by
  have HS := Lib.hid hS
  have hmk := make_ints xs.length hn
  have HL := Lib.hid (negB_length xs)
  clear hS
  go_enter Try.func61, Try.ntmps61
  go_wp2
  go_loopw [11] (fun i wr => ∃ k : Nat, k ≤ xs.length ∧ i = .int .i64 k ∧ Blk wr w.heap.size 3 (intCells (partI (negB xs) k)).toArray ∧ Below w.heap.size w wr) (fun i _ => xs.length - (intOf i).toNat)
  case atStart =>
    refine ⟨0, Nat.zero_le _, rfl, ?_, (Below.refl _ _).alloc (Nat.le_refl _) _⟩
    rw [partI_len0, HL.out]
    exact Blk.new w _ _
  case round =>
    obtain ⟨k, hk, rfl, hblk, hb⟩ := hrel
    have HB := Lib.hid hblk
    clear hblk hmk
    by_cases hlt : k < xs.length
    · obtain ⟨b1, o1, x, rfl, hb1, he, hc0⟩ := (HS.out.below hb).at_ hlt
      have hi0 : (0 : Int) ≤ (k : Int) := Int.natCast_nonneg _
      have hi1 : (k : Int) < (xs.length : Int) := by omega
      have HX := Lib.hid (negB_at he)
      clear he
      have hf0 := HB.out.frozen k
      have hcl0 : wr.cell? ⟨w.heap.size, k, none⟩ = some (.int .i64 0) := by rw [HB.out.cell]; simp [intCells, partI_at (negB xs) k (by rw [HL.out]; exact hlt)]
      go_wp2
      exact ⟨⟨k + 1, by omega, by go_num, blk_partI HB.out HX.out, hb.setCell (Nat.le_refl _) _⟩, by simp [intOf]; omega⟩
    · have HB2 := HB.out
      rw [show k = (negB xs).length by rw [HL.out]; omega, partI_all] at HB2
      have HB3 := Lib.hid HB2
      clear HB2
      go_wp2
      go_ret
      exact ⟨some ⟨w.heap.size, 0, none⟩, xs.length, by rw [HL.out]; rfl, OwnI.of_blk HB3.out (Nat.le_refl _), hb⟩
end Go.Proofs.Ytdpojcgeblbfeaa

/- AddDivisors: the specification's appended sums and the program's filled slice are one plain list. -/
namespace Go.Proofs.Ytdpojcgeblbfeaa
open Go.RowKit

def sumsB (xs ys : List Int) : List Int := (List.range xs.length).map fun i => wrap64 (xs.getD i 0 + ys.getD i 0)
def addB (xs ys : List Int) : List Int := if xs.length = ys.length then sumsB xs ys else []
def sameLen (xs ys : List Int) : Bool := decide (xs.length = ys.length)
theorem sumsB_length (xs ys : List Int) : (sumsB xs ys).length = xs.length := by simp [sumsB]
theorem sumsB_at {xs ys : List Int} {k : Nat} {x y : Int} (h : xs[k]? = some x) (h2 : ys[k]? = some y) : (sumsB xs ys)[k]? = some (wrap64 (x + y)) := by
  have hk : k < xs.length := (List.getElem?_eq_some_iff.1 h).1
  simp [sumsB, hk, List.getD, h2]
  rw [List.getElem?_eq_getElem hk] at h
  injection h with h
  rw [h]


set_option maxHeartbeats 1000000 in
theorem implAddD (A C : Option Addr) (ca cc : Nat) (xs ys : List Int) (w : World) (hn : xs.length ≤ 1048576) (hm : ys.length ≤ 1048576) (h1 : IntS w w.heap.size A xs) (h2 : IntS w w.heap.size C ys) :
    Calls Try.prog 62 #[.slice A xs.length ca, .slice C ys.length cc] w (GivesIntsOk w (addB xs ys) (sameLen xs ys)) := by
  have HS := Lib.hid h1
  have HT := Lib.hid h2
  clear h1 h2
  by_cases hl : xs.length = ys.length
  · rw [addB, if_pos hl, sameLen, decide_eq_true hl]
    have t0 : ((xs.length : Int) != (ys.length : Int)) = false := by simp [hl]
    have hl1 : xs.length ≤ ys.length := by omega
    have hmk := make_ints xs.length hn
    have HL := Lib.hid (sumsB_length xs ys)
    clear hl
    go_enter Try.func62, Try.ntmps62
    go_wp2
    go_loopw [18] (fun i wr => ∃ k : Nat, k ≤ xs.length ∧ i = .int .i64 k ∧ Blk wr w.heap.size 3 (intCells (partI (sumsB xs ys) k)).toArray ∧ Below w.heap.size w wr) (fun i _ => xs.length - (intOf i).toNat)
    case atStart =>
      refine ⟨0, Nat.zero_le _, rfl, ?_, (Below.refl _ _).alloc (Nat.le_refl _) _⟩
      rw [partI_len0, HL.out]
      exact Blk.new w _ _
    case round =>
      obtain ⟨k, hk, rfl, hblk, hb⟩ := hrel
      have HB := Lib.hid hblk
      clear hblk hmk
      by_cases hlt : k < xs.length
      · obtain ⟨b1, o1, x, rfl, hb1, he, hc0⟩ := (HS.out.below hb).at_ hlt
        obtain ⟨b2, o2, y, rfl, hb2, hf, hd0⟩ := (HT.out.below hb).at_ (k := k) (by omega)
        have hi0 : (0 : Int) ≤ (k : Int) := Int.natCast_nonneg _
        have hi1 : (k : Int) < (xs.length : Int) := by omega
        have hi2 : (k : Int) < (ys.length : Int) := by omega
        have HX := Lib.hid (sumsB_at he hf)
        clear he hf
        have hf0 := HB.out.frozen k
        have hcl0 : wr.cell? ⟨w.heap.size, k, none⟩ = some (.int .i64 0) := by rw [HB.out.cell]; simp [intCells, partI_at (sumsB xs ys) k (by rw [HL.out]; exact hlt)]
        go_wp2
        go_region
        go_wp2
        exact ⟨⟨k + 1, by omega, by go_num, (blk_partI HB.out HX.out).drew, (hb.setCell (Nat.le_refl _) _).drew⟩, by simp [intOf]; omega⟩
      · have HB2 := HB.out
        rw [show k = (sumsB xs ys).length by rw [HL.out]; omega, partI_all] at HB2
        have HB3 := Lib.hid HB2
        clear HB2
        go_wp2
        go_ret2
        exact ⟨some ⟨w.heap.size, 0, none⟩, xs.length, by rw [HL.out]; rfl, OwnI.of_blk HB3.out (Nat.le_refl _), hb⟩
  · rw [addB, if_neg hl, sameLen, decide_eq_false hl]
    have t0 : ((xs.length : Int) != (ys.length : Int)) = true := by simp; omega
    clear hl
    go_enter Try.func62, Try.ntmps62
    go_wp2
    go_ret2
    exact ⟨none, 0, rfl, OwnI.nil _ _ _, Below.refl _ _⟩
end Go.Proofs.Ytdpojcgeblbfeaa
