/- The specification's l02Reach. -/
import Derived.Test.YtkmbdclhjdbhpabReach
namespace Go.Proofs.Ytkmbdclhjdbhpab
open Go.RowKit

/-- the first k edges bring nothing new at x -/
def Seen (es : List (Int × Int)) (q : List Int) (x : Int) (k : Nat) : Prop := ∀ (i : Nat) (e : Int × Int), i < k → es[i]? = some e → (e.1 = x → e.2 ∈ q) ∧ (e.2 = x → e.1 ∈ q)
/-- the vertices before at bring nothing new -/
def Done (es : List (Int × Int)) (q : List Int) (at_ : Nat) : Prop := ∀ (j : Nat) (x : Int), j < at_ → q[j]? = some x → ∀ b, Touch es x b → b ∈ q
theorem Seen.next {es : List (Int × Int)} {q : List Int} {x : Int} {k : Nat} {e : Int × Int} (h : Seen es q x k) (he : es[k]? = some e) (h1 : e.1 = x → e.2 ∈ q) (h2 : e.2 = x → e.1 ∈ q) : Seen es q x (k + 1) := fun i f hi hf => by
  rcases Nat.lt_or_ge i k with g | g
  · exact h i f g hf
  · have : i = k := by omega
    subst this
    rw [he] at hf
    injection hf with hf
    subst hf
    exact ⟨h1, h2⟩
theorem Seen.more {es : List (Int × Int)} {q : List Int} {x y : Int} {k : Nat} (h : Seen es q x k) : Seen es (q ++ [y]) x k := fun i f hi hf => ⟨fun g => by simp [(h i f hi hf).1 g], fun g => by simp [(h i f hi hf).2 g]⟩
theorem Done.more {es : List (Int × Int)} {q : List Int} {y : Int} {k : Nat} (h : Done es q k) (hk : k ≤ q.length) : Done es (q ++ [y]) k := fun j x hj hx b hb => by
  rw [List.getElem?_append_left (by omega)] at hx
  simp [h j x hj hx b hb]
theorem Done.next {es : List (Int × Int)} {q : List Int} {k : Nat} {x : Int} (h : Done es q k) (hx : q[k]? = some x) (hs : Seen es q x es.length) : Done es q (k + 1) := fun j y hj hy b hb => by
  rcases Nat.lt_or_ge j k with g | g
  · exact h j y g hy b hb
  · have : j = k := by omega
    subst this
    rw [hx] at hy
    injection hy with hy
    subst hy
    rcases hb with g | g
    · obtain ⟨i, hi⟩ := List.getElem?_of_mem g
      exact (hs i _ (List.getElem?_eq_some_iff.1 hi).1 hi).1 rfl
    · obtain ⟨i, hi⟩ := List.getElem?_of_mem g
      exact (hs i _ (List.getElem?_eq_some_iff.1 hi).1 hi).2 rfl
theorem Done.all {es : List (Int × Int)} {q : List Int} (h : Done es q q.length) : ∀ x ∈ q, ∀ b, Touch es x b → b ∈ q := fun x hx => by
  obtain ⟨j, hj⟩ := List.getElem?_of_mem hx
  exact h j x (List.getElem?_eq_some_iff.1 hj).1 hj
/-- the queue's slice at hand -/
theorem own_slice {w : World} {base n : Nat} {v : Value} {zs : List Int} (h : w.ownsRow base 3 1 v n (intCells zs)) : ∃ Ar cr, v = .slice Ar zs.length cr ∧ n = zs.length := by
  have hl : zs.length = n := by simpa [intCells] using h.1
  rcases h.2 with ⟨h1, h2⟩ | ⟨g, cap, cur, h1, _⟩
  · exact ⟨none, 0, by rw [h1, hl, h2], hl.symm⟩
  · exact ⟨_, _, by rw [h1, hl], hl.symm⟩
theorem cells_snoc (q : List Int) (y : Int) : intCells q ++ [.int .i64 y] = intCells (q ++ [y]) := by simp [intCells]
/-- what is held of the queue -/
def QOwn (w : World) (base : Nat) (v : Value) (q : List Int) : Prop := w.ownsRow base 3 1 v q.length (intCells q)
theorem QOwn.slice {w : World} {base : Nat} {v : Value} {q : List Int} (h : QOwn w base v q) : ∃ Ar cr, v = .slice Ar q.length cr := by
  obtain ⟨Ar, cr, h1, _⟩ := own_slice h
  exact ⟨Ar, cr, h1⟩

theorem QOwn.ints {w : World} {base : Nat} {Ar : Option Addr} {cr : Nat} {q : List Int} (h : QOwn w base (.slice Ar q.length cr) q) : IntS w w.heap.size Ar q := (OwnI.of_own h).ints
theorem IntS.drewN {w : World} {Ar : Option Addr} {q : List Int} (h : IntS w w.heap.size Ar q) (n : Nat) : IntS (w.drewN n) (w.drewN n).heap.size Ar q := h
theorem IntS.alloc {w : World} {Ar : Option Addr} {q : List Int} (h : IntS w w.heap.size Ar q) (o : Obj) : IntS (w.alloc o) (w.alloc o).heap.size Ar q := h.up_ ((Below.refl _ _).alloc (Nat.le_refl _) _)
theorem same_at {q : List Int} {k : Nat} {x y : Int} (h : q[k]? = some x) (h2 : q[k]? = some y) : y = x := by rw [h] at h2; exact (Option.some.inj h2).symm
theorem QOwn.alloc {w : World} {base : Nat} {v : Value} {q : List Int} (h : QOwn w base v q) (o : Obj) : QOwn (w.alloc o) base v q := World.ownsRow.alloc h o
theorem QOwn.drewN {w : World} {base : Nat} {v : Value} {q : List Int} (h : QOwn w base v q) (n : Nat) : QOwn (w.drewN n) base v q := h

theorem Blk.grown {w w' : World} {g : Nat} {t : TypeId} {cs : Array Value} {row : Option Nat} (h : Blk w g t cs) (hg : w.grownBy w' row) (hne : row ≠ some g) : Blk w' g t cs := (hg.block g h.lt (fun e => hne e.symm)).trans h
theorem QOwn.block {w : World} {base b o c n : Nat} {q : List Int} (h : QOwn w base (.slice (some ⟨b, o, none⟩) n c) q) : base ≤ b ∧ b < w.heap.size := World.ownsRow.lt h b rfl
theorem one_cell (W : World) (g : Nat) (hg : g = W.heap.size) (t : TypeId) (u : Value) (j : Nat) (x : Value) (h : [u][j]? = some x) : (W.alloc (.cells #[u] t)).cell? ((⟨g, 0, none⟩ : Addr).add j) = some x := by
  subst hg
  cases j with
  | zero =>
    simp only [List.getElem?_cons_zero, Option.some.injEq] at h
    subst h
    exact (Blk.new W t #[u]).cell 0
  | succ j => simp at h
/-- one more vertex in the queue -/
theorem push_all {w1 : World} {base k m : Nat} {N x y : Int} {es : List (Int × Int)} {p : List Int} {e : Int × Int} {v' : Value} (ho : w1.ownsRow base 3 1 v' (p.length + 1) (intCells p ++ [.int .i64 y]))
    (hq : Queue N es p) (hk : k < p.length) (hx : p[k]? = some x) (hd : Done es p k) (hs : Seen es p x m) (he : es[m]? = some e) (hy : p.contains y = false) (ht : Touch es x y) (hB : edgesB N es = true)
    (h1 : e.1 = x → e.2 = y) (h2 : e.2 = x → e.1 = y) :
    ∃ p2, QOwn w1 base v' p2 ∧ Queue N es p2 ∧ k < p2.length ∧ p2[k]? = some x ∧ Done es p2 k ∧ Seen es p2 x (m + 1) := by
  refine ⟨p ++ [y], ?_, hq.push (List.mem_of_getElem? hx) ht (fun hm => ?_) hB, by simp; omega, by rw [List.getElem?_append_left hk]; exact hx, hd.more (by omega), hs.more.next he (fun g => by simp [h1 g]) (fun g => by simp [h2 g])⟩
  · unfold QOwn
    rw [← cells_snoc]
    simpa using ho
  · rw [← List.contains_iff_mem, hy] at hm
    cases hm

set_option maxRecDepth 100000 in
set_option maxHeartbeats 4000000 in
theorem l02Reach_any (N : Int) (A : Option Addr) (c : Nat) (es : List (Int × Int)) (w : World) (hB : edgesB N es = true) (hE : EdgeS w w.heap.size A es) :
    Calls Try.prog 97 #[.agg #[.int .i64 N, .slice A es.length c]] w fun e w' => ∃ (Ar : Option Addr) (cr : Nat) (q : List Int), e = .returned (.slice Ar q.length cr) ∧ decide ((q.length : Int) = N) = connB N es ∧ q.length ≤ 6 ∧ Below w.heap.size w w' := by
  obtain ⟨i0, hi, hz0, hz1, hz2⟩ := info_parts intInfo
  obtain ⟨hN1, hN6, hn12⟩ := edgesB_lims hB
  have HB := Lib.hid hB
  have HE := Lib.hid hE
  clear hE hB
  go_enter Try.func97, Try.ntmps97
  go_wp2
  go_loopw [3, 4] (fun v i wr => ∃ (k : Nat) (q : List Int), k ≤ q.length ∧ i = .int .i64 k ∧ QOwn wr (w.heap.size + 1) v q ∧ Queue N es q ∧ Done es q k ∧ Blk wr w.heap.size 39 #[.int .i64 N, .slice A es.length c] ∧ Below w.heap.size w wr) (fun _ i _ => 7 - (intOf i).toNat)
  case atStart =>
    refine ⟨0, [0], Nat.zero_le _, rfl, ?_, Queue.start es hN1, fun j x h => absurd h (by omega), (Blk.new w _ _).alloc _, ((Below.refl _ _).alloc (Nat.le_refl _) _).alloc (by simp) _⟩
    have h := World.ownsRow_lit (base := w.heap.size + 1) (e := 3) (size := 1) (w.alloc (Obj.cells #[.int .i64 N, .slice A es.length c] 39)) #[.int .i64 0] 1 (by simp) (by unfold maxLen; omega) rfl
    rw [World.size_alloc] at h
    exact h
  case round =>
    obtain ⟨k, q, hk, rfl, hown, hqu, hdone, hblk, hb⟩ := hrel
    have hqn := hqu.len
    have HO := Lib.hid hown
    have HQ := Lib.hid hqu
    have HD := Lib.hid hdone
    have HK := Lib.hid hblk
    obtain ⟨Ar, cr, rfl⟩ := hown.slice
    have hg0 : wr.cell? ⟨w.heap.size, 0, none⟩ = some (.int .i64 N) := by rw [hblk.cell]; rfl
    have hg1 : wr.cell? ⟨w.heap.size, 1, none⟩ = some (.slice A es.length c) := by rw [hblk.cell]; rfl
    clear hown hqu hdone hblk
    by_cases hlt : k < q.length
    · obtain ⟨x, hx⟩ : ∃ x, q[k]? = some x := ⟨q[k], List.getElem?_eq_getElem hlt⟩
      have HX0 := Lib.hid hx
      clear hx
      have hk6 : k < 6 := by omega
      obtain ⟨wo, rfl⟩ : ∃ wo : World, wo = wr := ⟨_, rfl⟩
      go_wp2
      go_loopw [3, 17] (fun v i wr => ∃ (m : Nat) (p : List Int), m ≤ es.length ∧ i = .int .i64 m ∧ QOwn wr (w.heap.size + 1) v p ∧ Queue N es p ∧ (k < p.length ∧ p[k]? = some x) ∧ Done es p k ∧ Seen es p x m ∧ Blk wr w.heap.size 39 #[.int .i64 N, .slice A es.length c] ∧ Below w.heap.size w wr) (fun _ i _ => es.length - (intOf i).toNat)
      case atStart => exact ⟨0, q, Nat.zero_le _, rfl, HO.out, HQ.out, ⟨hlt, HX0.out⟩, HD.out, fun i e h => absurd h (by omega), HK.out, hb⟩
      case round =>
        obtain ⟨m, p, hm, rfl, hown, hqu, ⟨hkp, hx⟩, hdone, hseen, hblk, hb2⟩ := hrel
        have hpn := hqu.len
        have HO2 := Lib.hid hown
        have HQ2 := Lib.hid hqu
        have HD2 := Lib.hid hdone
        have HS2 := Lib.hid hseen
        have HK2 := Lib.hid hblk
        have HX := Lib.hid hx
        obtain ⟨Ap, cp, rfl⟩ := hown.slice
        have hlk := hblk.lt
        clear hown hqu hdone hseen hblk hx HO HQ HD HK HX0
        by_cases hlt2 : m < es.length
        · obtain ⟨b1, o1, e, hA1, hb1, he, hc0, hc1⟩ := (HE.out.below hb2).at_ hlt2
          obtain ⟨b2, o2, x', hA2, hb2', hx', hq0⟩ := HO2.out.ints.at_ hkp
          have hxx := same_at HX.out hx'
          subst hxx
          have HI2 := Lib.hid HO2.out.ints
          subst hA1
          subst hA2
          have HEm := Lib.hid he
          have hm0 : (0 : Int) ≤ (m : Int) := Int.natCast_nonneg _
          have hm1 : (m : Int) < (es.length : Int) := by omega
          have hk0 : (0 : Int) ≤ (k : Int) := Int.natCast_nonneg _
          have hk1 : (k : Int) < (p.length : Int) := by omega
          clear he hx'
          have ho := all_edge HB.out (List.mem_of_getElem? HEm.out)
          have hblk0 := HO2.out.block
          have hwl := hb2.size
          by_cases hax : e.1 = x'
          · have t1 : (e.1 == x') = true := by simp [hax]
            have t2 : (e.2 == x') = false := by simp; omega
            have HT : Hid (Touch es x' e.2) := Lib.hid (.inl (by rw [← hax]; exact List.mem_of_getElem? HEm.out))
            have H2 : Hid (e.2 = x' → e.1 = e.2) := Lib.hid fun h => by omega
            clear hax
            by_cases hin : e.2 ∈ p
            · have HF := Lib.hid (HS2.out.next HEm.out (fun _ => hin) (fun h => by simp [h] at t2))
              go_wp2_with fail
              go_quiet (first | (go_at_call 113; refine Calls.quiet_of_same (l02Has_any _ _ _ _ _ (by omega) ((HI2.out.alloc _).drewN _))))
              go_wp2_with fail
              go_quiet (fail)
              go_wp2
              refine ⟨⟨m + 1, p, by omega, by go_num, (HO2.out.alloc _).drewN _, HQ2.out, ⟨hkp, HX.out⟩, HD2.out, HF.out, (HK2.out.alloc _).drewN _, below_drewN (hb2.alloc hb2.size _) _⟩, by simp [intOf]; omega⟩
            · have hin2 : p.contains e.2 = false := by simpa using hin
              go_wp2_with fail
              go_quiet (first | (go_at_call 113; refine Calls.quiet_of_same (l02Has_any _ _ _ _ _ (by omega) ((HI2.out.alloc _).drewN _))))
              go_wp2_with (at_builtin; refine wpList_append_own _ rfl _ _ 23 rfl (w.heap.size + 1) 3 i0 (.int .i64 0) 1 8 Try.underlying23 hi hz0 hz1 hz2 rfl (by decide) _ _ _ rfl (((HO2.out.alloc _).drewN _).alloc _) ⟨wr.heap.size + 1, 0, none⟩ 1 1 [.int .i64 e.2] rfl rfl ?c1 ?c2 ?c3 ?c4 ?c5 ?_)
              case c1 => exact one_cell _ _ (by simp) _ _
              case c2 => simp [Value.oneCell']
              case c3 => unfold maxLen; omega
              case c4 => omega
              case c5 => simp; omega
              intro v' w1 hown' hgrow _
              obtain ⟨p2, hown2, hqu2, hk2, hx2, hd2, hs2⟩ := push_all hown' HQ2.out hkp HX.out HD2.out HS2.out HEm.out hin2 HT.out HB.out (fun _ => rfl) H2.out
              have hblk3 := (((HK2.out.alloc _).drewN _).alloc _).grown hgrow (by simp only [Value.ownBlock, ne_eq, Option.some.injEq]; omega)
              have hcpy := (((Blk.new wr 67 #[.int .i64 e.1, .int .i64 e.2]).drewN _).alloc _).grown hgrow (by simp only [Value.ownBlock, ne_eq, Option.some.injEq]; omega)
              have hb3 : Below w.heap.size w w1 := ((below_drewN (hb2.alloc hb2.size _) _).alloc (by simp; omega) _).grown hgrow (by simp; omega) (fun q hq => by simp only [Value.ownBlock, Option.some.injEq] at hq; omega)
              have HOn := Lib.hid hown2
              have HQn := Lib.hid hqu2
              have HXn := Lib.hid hx2
              have HDn := Lib.hid hd2
              have HSn := Lib.hid hs2
              have HKn := Lib.hid hblk3
              obtain ⟨A3, c3, rfl⟩ := hown2.slice
              obtain ⟨b3, o3, x3, rfl, hb3', hx3, hq3⟩ := HOn.out.ints.at_ hk2
              have hxx3 := same_at HXn.out hx3
              subst hxx3
              have hk3 : (k : Int) < (p2.length : Int) := by omega
              have k1 : w1.cell? ⟨wr.heap.size, 1, none⟩ = some (.int .i64 e.2) := by rw [hcpy.cell]; rfl
              clear hown' hgrow hqu2 hx2 hd2 hs2 hblk3 hcpy hx3 hown2
              go_wp2_with fail
              go_quiet (fail)
              go_wp2
              exact ⟨⟨m + 1, p2, by omega, by go_num, HOn.out.drewN _, HQn.out, ⟨hk2, HXn.out⟩, HDn.out, HSn.out, HKn.out.drewN _, below_drewN hb3 _⟩, by simp [intOf]; omega⟩
          · have t1 : (e.1 == x') = false := by simp [hax]
            by_cases hbx : e.2 = x'
            · have t2 : (e.2 == x') = true := by simp [hbx]
              have HT : Hid (Touch es x' e.1) := Lib.hid (.inr (by rw [← hbx]; exact List.mem_of_getElem? HEm.out))
              have H1 : Hid (e.1 = x' → e.2 = e.1) := Lib.hid fun h => absurd h hax
              clear hbx
              have HAX := Lib.hid hax
              clear hax
              go_wp2_with fail
              go_quiet (fail)
              go_wp2_with fail
              have hIW := (HI2.out.alloc (Obj.cells #[.int .i64 e.1, .int .i64 e.2] 67)).drewN nq
              have hOW := (HO2.out.alloc (Obj.cells #[.int .i64 e.1, .int .i64 e.2] 67)).drewN nq
              have hKW := (HK2.out.alloc (Obj.cells #[.int .i64 e.1, .int .i64 e.2] 67)).drewN nq
              have hCW := (Blk.new wr 67 #[.int .i64 e.1, .int .i64 e.2]).drewN nq
              have hbW := below_drewN (hb2.alloc hb2.size (Obj.cells #[.int .i64 e.1, .int .i64 e.2] 67)) nq
              obtain ⟨W, hW⟩ : ∃ W : World, W = (wr.alloc (Obj.cells #[.int .i64 e.1, .int .i64 e.2] 67)).drewN nq := ⟨_, rfl⟩
              rw [← hW] at hIW hOW hKW hCW hbW ⊢
              clear hW hq0 hc0 hc1
              obtain ⟨b3, o3, x3, hA3, hb3', hx3, hq3⟩ := hIW.at_ hkp
              have hxx3 := same_at HX.out hx3
              subst hxx3
              simp only [Option.some.injEq, Addr.mk.injEq, and_true] at hA3
              obtain ⟨rfl, rfl⟩ := hA3
              have k0 : W.cell? ⟨wr.heap.size, 0, none⟩ = some (.int .i64 e.1) := by rw [hCW.cell]; rfl
              have k1 : W.cell? ⟨wr.heap.size, 1, none⟩ = some (.int .i64 e.2) := by rw [hCW.cell]; rfl
              have hblkW := hOW.block
              have hwW := hbW.size
              have HIW := Lib.hid hIW
              have HOW := Lib.hid hOW
              have HKW := Lib.hid hKW
              clear hIW hOW hKW hCW hx3
              by_cases hin : e.1 ∈ p
              · have HF := Lib.hid (HS2.out.next HEm.out (fun h => absurd h HAX.out) (fun _ => hin))
                go_quiet (first | (go_at_call 113; refine Calls.quiet_of_same (l02Has_any _ _ _ _ _ (by omega) (HIW.out.drewN _))))
                go_wp2
                exact ⟨⟨m + 1, p, by omega, by go_num, HOW.out.drewN _, HQ2.out, ⟨hkp, HX.out⟩, HD2.out, HF.out, HKW.out.drewN _, below_drewN hbW _⟩, by simp [intOf]; omega⟩
              · have hin2 : p.contains e.1 = false := by simpa using hin
                go_quiet (first | (go_at_call 113; refine Calls.quiet_of_same (l02Has_any _ _ _ _ _ (by omega) (HIW.out.drewN _))))
                go_wp2_with (at_builtin; refine wpList_append_own _ rfl _ _ 23 rfl (w.heap.size + 1) 3 i0 (.int .i64 0) 1 8 Try.underlying23 hi hz0 hz1 hz2 rfl (by decide) _ _ _ rfl ((HOW.out.drewN _).alloc _) ⟨W.heap.size, 0, none⟩ 1 1 [.int .i64 e.1] rfl rfl ?c1 ?c2 ?c3 ?c4 ?c5 ?_)
                case c1 => exact one_cell _ _ (by simp) _ _
                case c2 => simp [Value.oneCell']
                case c3 => unfold maxLen; omega
                case c4 => omega
                case c5 => simp; omega
                intro v' w1 hown' hgrow _
                obtain ⟨p2, hown2, hqu2, hk2, hx2, hd2, hs2⟩ := push_all hown' HQ2.out hkp HX.out HD2.out HS2.out HEm.out hin2 HT.out HB.out H1.out (fun _ => rfl)
                have hblk3 := ((HKW.out.drewN _).alloc _).grown hgrow (by simp only [Value.ownBlock, ne_eq, Option.some.injEq]; omega)
                have hb3 : Below w.heap.size w w1 := ((below_drewN hbW _).alloc (by simp; omega) _).grown hgrow (by simp; omega) (fun q hq => by simp only [Value.ownBlock, Option.some.injEq] at hq; omega)
                have HOn := Lib.hid hown2
                have HQn := Lib.hid hqu2
                have HXn := Lib.hid hx2
                have HDn := Lib.hid hd2
                have HSn := Lib.hid hs2
                have HKn := Lib.hid hblk3
                obtain ⟨A3, c3, rfl⟩ := hown2.slice
                clear hown' hgrow hqu2 hx2 hd2 hs2 hblk3 hown2
                go_wp2
                exact ⟨⟨m + 1, p2, by omega, by go_num, HOn.out, HQn.out, ⟨hk2, HXn.out⟩, HDn.out, HSn.out, HKn.out, hb3⟩, by simp [intOf]; omega⟩
            · have t2 : (e.2 == x') = false := by simp [hbx]
              have HF := Lib.hid (HS2.out.next HEm.out (fun h => absurd h hax) (fun h => absurd h hbx))
              clear hax hbx
              go_wp2_with fail
              go_quiet (fail)
              go_wp2_with fail
              go_quiet (fail)
              go_wp2
              refine ⟨⟨m + 1, p, by omega, by go_num, (HO2.out.alloc _).drewN _, HQ2.out, ⟨hkp, HX.out⟩, HD2.out, HF.out, (HK2.out.alloc _).drewN _, below_drewN (hb2.alloc hb2.size _) _⟩, by simp [intOf]; omega⟩
        · have HF := Lib.hid (HD2.out.next HX.out (by rw [← show m = es.length by omega]; exact HS2.out))
          go_wp2
          exact ⟨⟨k + 1, p, by omega, by go_num, HO2.out, HQ2.out, HF.out, HK2.out, hb2⟩, by simp [intOf]; omega⟩
    · have HF := Lib.hid (HQ.out.full (by have := HD.out; rw [show k = q.length by omega] at this; exact this.all))
      go_wp2
      go_ret
      exact ⟨Ar, cr, q, rfl, HF.out, by omega, hb⟩
end Go.Proofs.Ytkmbdclhjdbhpab
