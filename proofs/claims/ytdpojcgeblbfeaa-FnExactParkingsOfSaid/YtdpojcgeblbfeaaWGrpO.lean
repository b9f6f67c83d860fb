/- The specification's l09Sort: rows are put in order by insertion; the rows' numbers stay where they lie. -/
import Derived.Test.YtdpojcgeblbfeaaWGrpN
import Derived.Test.YtdpojcgeblbfeaaWBJ
import Derived.Test.YtdpojcgeblbfeaaWBT
import Derived.Test.YtdpojcgeblbfeaaWBI
import Derived.Test.YtdpojcgeblbfeaaWBA
set_option linter.all false
namespace Go.Proofs.Ytdpojcgeblbfeaa
open Go.RowKit

def Hole (us : List Value) (n q : Nat) (cs : Array Value) : Prop := (∀ j, j < q → cs[j]? = us[j]?) ∧ ∀ j, q ≤ j → j < n → cs[j + 1]? = us[j]?
section
variable {us : List Value} {n q : Nat} {cs : Array Value} {u : Value}
theorem Hole.start (hl : us.length = n) (h : cs.toList.take (n + 1) = us ++ [u]) : Hole us n n cs := by
  refine ⟨fun j hj => ?_, fun j h1 h2 => by omega⟩
  have e : (cs.toList.take (n + 1))[j]? = (us ++ [u])[j]? := by rw [h]
  rw [List.getElem?_take_of_lt (by omega), List.getElem?_append_left (by omega), Array.getElem?_toList] at e
  exact e
theorem Hole.shift (h : Hole us n (q + 1) cs) (hq : q < n) (hs : n < cs.size) (hu : us[q]? = some u) : Hole us n q (cs.setIfInBounds (q + 1) u) := by
  refine ⟨fun j hj => ?_, fun j h1 h2 => ?_⟩
  · rw [Array.getElem?_setIfInBounds, if_neg (by omega)]
    exact h.1 j (by omega)
  · rw [Array.getElem?_setIfInBounds]
    by_cases e : q = j
    · subst e
      rw [if_pos rfl, if_pos (by omega), hu]
    · rw [if_neg (by omega)]
      exact h.2 j (by omega) h2
theorem Hole.fill (h : Hole us n q cs) (hl : us.length = n) (hq : q ≤ n) (hs : n < cs.size) (u : Value) : (cs.setIfInBounds q u).toList.take (n + 1) = us.take q ++ u :: us.drop q := by
  apply List.ext_getElem?
  intro i
  by_cases hi : i < n + 1
  · rw [List.getElem?_take_of_lt hi, Array.getElem?_toList, Array.getElem?_setIfInBounds]
    by_cases e : q = i
    · subst e
      rw [if_pos rfl, if_pos (by omega), List.getElem?_append_right (by simp; omega)]
      simp [hl, Nat.min_eq_left hq]
    · rw [if_neg e]
      by_cases c : i < q
      · rw [h.1 i c, List.getElem?_append_left (by simp; omega), List.getElem?_take_of_lt c]
      · obtain ⟨j, rfl⟩ : ∃ j, i = j + 1 := ⟨i - 1, by omega⟩
        rw [h.2 j (by omega) (by omega), List.getElem?_append_right (by simp; omega), List.length_take, Nat.min_eq_left (by omega), show j + 1 - q = (j - q) + 1 by omega, List.getElem?_cons_succ, List.getElem?_drop]
        congr 1
        omega
  · rw [List.getElem?_eq_none (by simp; omega), List.getElem?_eq_none (by simp; omega)]
end
theorem Hole.own {wx : World} {g cap base : Nat} {t : TypeId} {us : List Value} {k q : Nat} {cs : Array Value} (hB : Blk wx g t cs) (hh : Hole us k q cs) (hl : us.length = k) (hq : q ≤ k) (hs : cs.size = cap * 1) (hle : k + 1 ≤ cap) (hmax : cap ≤ maxLen) (hbg : base ≤ g) (u : Value) :
    (wx.setCell ⟨g, q, none⟩ u).ownsRow base t 1 (.slice (some ⟨g, 0, none⟩) (k + 1) cap) (k + 1) (us.take q ++ u :: us.drop q) := by
  refine ⟨by simp; omega, .inr ⟨g, cap, cs.setIfInBounds q u, rfl, hbg, hB.set_ q u, hle, hmax, by simp; omega, ?_⟩⟩
  rw [Nat.mul_one]
  exact hh.fill hl hq (by omega) u
def RowsV (w : World) (us : List Value) (L : List (List Int)) : Prop := us.length = L.length ∧ ∀ (i : Nat) (r : List Int), L[i]? = some r → ∃ (A : Option Addr) (c : Nat), us[i]? = some (.slice A r.length c) ∧ IntS w w.heap.size A r
theorem RowsV.nil (w : World) : RowsV w [] [] := ⟨rfl, fun i r h => by simp at h⟩
theorem RowsV.ins {w : World} {us : List Value} {L : List (List Int)} {p c : Nat} {A : Option Addr} {x : List Int} (h : RowsV w us L) (hp : p ≤ L.length) (hx : IntS w w.heap.size A x) : RowsV w (us.take p ++ .slice A x.length c :: us.drop p) (L.take p ++ x :: L.drop p) := by
  obtain ⟨h1, h2⟩ := h
  refine ⟨by simp; omega, fun i r hr => ?_⟩
  by_cases hi : i < p
  · rw [List.getElem?_append_left (by simp; omega), List.getElem?_take_of_lt hi] at hr ⊢
    exact h2 i r hr
  · rw [List.getElem?_append_right (by simp; omega), List.length_take, Nat.min_eq_left (by omega)] at hr ⊢
    by_cases e : i = p
    · subst e
      rw [Nat.sub_self, List.getElem?_cons_zero] at hr ⊢
      injection hr with hr
      subst hr
      exact ⟨A, c, rfl, hx⟩
    · rw [show i - p = (i - p - 1) + 1 by omega, List.getElem?_cons_succ, List.getElem?_drop] at hr ⊢
      exact h2 _ r hr
def GivesSort (w : World) (L : List (List Int)) (e : Ending) (w' : World) : Prop :=
  ∃ (v : Value) (us : List Value), e = .returned v ∧ w'.ownsRow w.heap.size 28 1 v L.length us ∧ RowsV w us L ∧ Below w.heap.size w w'
set_option maxRecDepth 100000 in
set_option maxHeartbeats 4000000 in
theorem l09Sort_any (A : Option Addr) (c m : Nat) (L : List (List Int)) (w : World) (hn : L.length ≤ 1048576) (hm : m ≤ 1048576) (hl : ∀ r ∈ L, r.length = m) (hS : IntSS w w.heap.size A L) :
    Calls Try.prog 72 #[.slice A L.length c] w (GivesSort w (sortL L)) := by
  obtain ⟨i1, hj, hy0, hy1, hy2⟩ := info_parts rowsInfo
  have HS := Lib.hid hS
  have HL := Lib.hid hl
  have HSF := Lib.hid (fun (k : Nat) (x : List Int) (hx : L[k]? = some x) => (show sortF [] (L.take (k + 1)) = insL x (sortF [] (L.take k)) from by rw [List.take_add_one, hx]; exact sortF_snoc _ _ _))
  have HSK := Lib.hid (fun (k : Nat) (hk : k ≤ L.length) => (show (sortF [] (L.take k)).length = k from by rw [sortF_len]; simp; omega))
  have HSM := Lib.hid (fun (k : Nat) (r : List Int) (hr : r ∈ sortF [] (L.take k)) => (show r.length = m from by
    rcases sortF_mem.1 hr with h | h
    · cases h
    · exact hl r (List.mem_of_mem_take h)))
  have HSE := Lib.hid (show sortF [] (L.take L.length) = sortL L by rw [List.take_of_length_le (Nat.le_refl _)]; rfl)
  have HSLL := Lib.hid (sortL_len L)
  obtain ⟨S, hSd⟩ : ∃ S : Nat → List (List Int), S = fun k => sortF [] (L.take k) := ⟨_, rfl⟩
  have e0 : ∀ k, sortF [] (L.take k) = S k := fun k => by rw [hSd]
  simp only [e0] at HSF HSK HSM HSE
  have HS0 := Lib.hid (show S 0 = [] by rw [← e0]; rfl)
  clear hS hl hSd e0
  go_enter Try.func72, Try.ntmps72
  go_wp2
  go_loopw [3, 5, 6, 10] (fun v _ _ i wr => ∃ (k : Nat) (us : List Value), k ≤ L.length ∧ i = .int .i64 k ∧ wr.ownsRow w.heap.size 28 1 v k us ∧ RowsV w us (S k) ∧ Below w.heap.size w wr) (fun _ _ _ i _ => L.length - (intOf i).toNat)
  case atStart => exact ⟨0, [], Nat.zero_le _, rfl, own_emptyF w _ (Nat.le_refl _) _, by rw [HS0.out]; exact RowsV.nil w, (Below.refl _ _).alloc (Nat.le_refl _) _⟩
  case round =>
    obtain ⟨k, us, hk, rfl, hown, hrv, hb⟩ := hrel
    have HO := Lib.hid hown
    have HR := Lib.hid hrv
    have HB := Lib.hid hb
    have hbs := hb.size
    clear hown hrv hb
    have hk0 : (0 : Int) ≤ (k : Int) := Int.natCast_nonneg _
    by_cases hlt : k < L.length
    · have hk1 : (k : Int) < (L.length : Int) := by omega
      obtain ⟨bL, oL, x, Ai, ci, rfl, hbL, hx, hcell, hints⟩ := HS.out.at_ hlt
      have hxl := HL.out x (List.mem_of_getElem? hx)
      have hcl : wr.cell? ⟨bL, oL + k, none⟩ = some (.slice Ai x.length ci) := (HB.out.cell (p := ⟨bL, oL + k, none⟩) hbL).trans hcell
      have HF := Lib.hid (HSF.out k x hx)
      have HI := Lib.hid hints
      have HXL := Lib.hid hxl
      have hskl := HSK.out k hk
      clear hcell hints hx hxl
      go_wp2_with (at_builtin; refine wpList_append_own _ rfl _ _ 41 rfl w.heap.size 28 i1 (.slice none 0 0) 1 24 Try.underlying41 hj hy0 hy1 hy2 rfl (by decide) _ _ _ rfl (HO.out.alloc _) ⟨wr.heap.size, 0, none⟩ 1 1 [.slice none 0 0] rfl rfl ?c1 ?c2 ?c3 ?c4 ?c5 ?_)
      case c1 => exact one_cell _ _ rfl _ _
      case c2 => simp [Value.oneCell']
      case c3 => unfold maxLen; omega
      case c4 => omega
      case c5 => simp; omega
      intro v' w5 hown' hgrow _
      have HB5 := Lib.hid ((HB.out.alloc hbs _).grown hgrow (by simp; omega) (fun q hq => (HO.out.lt q hq).1))
      obtain ⟨hl5, h5⟩ := hown'
      rcases h5 with ⟨_, h0⟩ | ⟨g, cap, cur, rfl, hbg, hg, hle, hmax, hcs, htk⟩
      · omega
      have husl : us.length = k := by have := HR.out.1; omega
      rw [Nat.mul_one] at htk
      have HH0 := Lib.hid (Hole.start husl htk)
      have HG := Lib.hid (show Blk w5 g 28 cur from hg)
      have hcs2 : k < cur.size := by omega
      have hw5 : w.heap.size ≤ w5.heap.size := HB5.out.size
      have hg5 := HG.out.lt
      have hmx : cap ≤ maxLen := hmax
      have hki : IntKind.i64.wrap (((k + 1 : Nat) : Int) - 1) = (k : Int) := by rw [IntKind.wrap_i64]; omega
      have hki2 : IntKind.i64.wrap ((k : Int) + 1 - 1) = (k : Int) := by rw [IntKind.wrap_i64]; omega
      have HMV0 := Lib.hid (Moves.refl w5 g (g + 1))
      have HUS := Lib.hid husl
      clear hgrow hl5 htk hg HO husl
      go_wp2
      go_loopw [6] (fun kv wx => ∃ (q : Nat) (cs : Array Value), q ≤ k ∧ kv = .int .i64 q ∧ Blk wx g 28 cs ∧ cs.size = cur.size ∧ Hole us k q cs ∧ Moves g (g + 1) w5 wx ∧ posL x (S k) k = posL x (S k) q) (fun kv _ => (intOf kv).toNat)
      case atStart => exact ⟨k, cur, Nat.le_refl _, rfl, HG.out, rfl, HH0.out, HMV0.out, rfl⟩
      case round =>
        clear HG HH0 HMV0
        obtain ⟨q, cs, hq, rfl, hbk, hcz, hhole, hmv, hpos⟩ := hrel
        have HG := Lib.hid hbk
        have HH := Lib.hid hhole
        have HM := Lib.hid hmv
        have HP := Lib.hid hpos
        have hq0 : (0 : Int) ≤ (q : Int) := Int.natCast_nonneg _
        have hbx : Below w.heap.size w wr := HB5.out.trans (hmv.below hbg hw5)
        have HBX := Lib.hid hbx
        have hfr := fun j => HG.out.frozen j
        have hcellj := fun j => (show wr.cell? ⟨g, j, none⟩ = cs[j]? from HG.out.cell j)
        clear hbk hhole hmv hpos hbx
        have hqk1 : (q : Int) < (k : Int) + 1 := by omega
        have hcq : wr.cell? ⟨g, q, none⟩ = some (cs[q]'(by omega)) := by rw [hcellj, Array.getElem?_eq_getElem (by omega)]
        have hfq := hfr q
        obtain ⟨zq, hzq⟩ : ∃ z, z = cs[q]'(by omega) := ⟨_, rfl⟩
        rw [← hzq] at hcq
        have HFIN := Lib.hid (fun (hp : posL x (S k) k = q) => (show (wr.setCell ⟨g, q, none⟩ (.slice Ai x.length ci)).ownsRow w.heap.size 28 1 (.slice (some ⟨g, 0, none⟩) (k + 1) cap) (k + 1) (us.take q ++ .slice Ai x.length ci :: us.drop q) ∧ RowsV w (us.take q ++ .slice Ai x.length ci :: us.drop q) (S (k + 1)) ∧ Below w.heap.size w (wr.setCell ⟨g, q, none⟩ (.slice Ai x.length ci)) from by
          refine ⟨Hole.own HG.out HH.out HUS.out hq (by omega) hle hmx hbg _, ?_, HBX.out.setCell (p := ⟨g, q, none⟩) (by simp only; omega) _⟩
          rw [HF.out, insL, hskl, hp]
          exact HR.out.ins (by omega) HI.out))
        clear hzq
        by_cases hq00 : q = 0
        · have HF2 := Lib.hid (HFIN.out (by rw [HP.out, hq00]; rfl))
          have z1 : ¬ ((0 : Int) < (q : Int)) := by omega
          clear hq00 HFIN hfr hcellj
          go_wp2
          go_roundw
          case rel => exact ⟨k + 1, _, by omega, by go_num, HF2.out.1, HF2.out.2.1, HF2.out.2.2⟩
          case measure => simp [intOf]; omega
        · have z1 : (0 : Int) < (q : Int) := by omega
          obtain ⟨p, rfl⟩ : ∃ p, q = p + 1 := ⟨q - 1, by omega⟩
          have z2 : IntKind.i64.wrap (((p + 1 : Nat) : Int) - 1) = (p : Int) := by rw [IntKind.wrap_i64]; omega
          have hpk : p < k := by omega
          have hpl : p < (S k).length := by omega
          obtain ⟨r, hr⟩ : ∃ r, (S k)[p]? = some r := ⟨_, List.getElem?_eq_getElem hpl⟩
          obtain ⟨Aj, cj, hu, hints⟩ := HR.out.2 p r hr
          have hrl := HSM.out k r (List.mem_of_getElem? hr)
          have hcp : wr.cell? ⟨g, p, none⟩ = some (.slice Aj r.length cj) := by rw [hcellj, HH.out.1 p (by omega), hu]
          have HLS := Lib.hid (l09Less_any Ai Aj ci cj x r wr (by rw [HXL.out]; exact hm) (by rw [HXL.out, hrl]) (HI.out.up_ HBX.out) (hints.up_ HBX.out))
          have hgd : (S k).getD p [] = r := by rw [List.getD, hr]; rfl
          have hpos1 : posL x (S k) (p + 1) = if lessL x r = true then posL x (S k) p else p + 1 := by rw [posL, hgd]
          have z3 : (0 : Int) ≤ (p : Int) := Int.natCast_nonneg _
          have z4 : (p : Int) < (k : Int) + 1 := by omega
          have HU := Lib.hid hu
          clear hr hints hfr hcellj hu hgd hpl hq00 hrl
          cases hless : lessL x r with
          | true =>
            rw [hless] at HLS
            rw [hless, if_pos rfl] at hpos1
            have HPP := Lib.hid (HP.out.trans hpos1)
            clear hpos1 hless HFIN
            go_wp2_with fail
            refine HLS.out.mono ?_
            rintro e wy ⟨rfl, rfl⟩
            have HB6 := Lib.hid (HG.out.set_ (p + 1) (.slice Aj r.length cj))
            have HM6 := Lib.hid (HM.out.set_ (p + 1) (.slice Aj r.length cj))
            have HH6 := Lib.hid (HH.out.shift hpk (by omega) HU.out)
            go_wp2
            go_roundw
            case rel => exact ⟨p, cs.setIfInBounds (p + 1) (.slice Aj r.length cj), by omega, by go_num, HB6.out, by simp; omega, HH6.out, HM6.out, HPP.out⟩
            case measure => simp [intOf]
          | false =>
            rw [hless] at HLS
            rw [hless, if_neg (by decide)] at hpos1
            have HF2 := Lib.hid (HFIN.out (HP.out.trans hpos1))
            clear hpos1 hless HFIN
            go_wp2_with fail
            refine HLS.out.mono ?_
            rintro e wy ⟨rfl, rfl⟩
            go_wp2
            go_roundw
            case rel => exact ⟨k + 1, _, by omega, by go_num, HF2.out.1, HF2.out.2.1, HF2.out.2.2⟩
            case measure => simp [intOf]; omega
    · have hkL : k = L.length := by omega
      have HO3 := HO.out
      have HR3 := HR.out
      subst hkL
      rw [HSE.out] at HR3
      have HRR := Lib.hid HR3
      clear HR3 hlt
      go_wp2
      go_ret
      exact ⟨_, us, rfl, by rw [HSLL.out]; exact HO3, HRR.out, HB.out⟩
end Go.Proofs.Ytdpojcgeblbfeaa
