/- The specification's l05Burn. -/
import Derived.Test.YtcfhkaefjhcglaaBurn
import Derived.Test.YtcfhkaefjhcglaaBF
namespace Go.Proofs.Ytcfhkaefjhcglaa
open Go.RowKit

theorem boolInfo : (Try.prog.info? 4).map (fun i => (i.zero, i.size, i.bytes)) = some (some (.bool false), 1, 1) := by kernel_rfl
theorem made_bools (n : Nat) : madeCells (Value.bool false).cells (n * 1) = (List.replicate n (Value.bool false)).toArray := by
  apply Array.ext
  · simp [madeCells]
  · intro i h1 h2
    simp only [madeCells, Array.getElem_map, Array.getElem_range, List.getElem_toArray, List.getElem_replicate]
    show (#[Value.bool false] : Array Value)[i % 1]! = _
    rw [Nat.mod_one]
    rfl
theorem make_bools (n : Nat) (hn : n ≤ 1048576) (w : World) : (Instr.makeSlice 129 (.int .i64 (n : Int)) (.int .i64 (n : Int))).run Try.prog w =
    .ok (.slice (some ⟨w.heap.size, 0, none⟩) n n) (w.alloc (.cells (List.replicate n (Value.bool false)).toArray 4)) := by
  obtain ⟨i0, hi, hx⟩ := Option.map_eq_some_iff.1 boolInfo
  simp only [Prod.mk.injEq] at hx
  obtain ⟨hz0, hz1, hz2⟩ := hx
  have hr := run_make (P := Try.prog) w 129 4 i0 _ Try.underlying129 hi hz0 .i64 .i64 n n (by omega) (by omega) (by rw [hz2]; omega) (by omega)
  rw [hz1] at hr
  simp only [Int.toNat_natCast] at hr
  rw [made_bools] at hr
  exact hr
def burntM (M : Nat) (ord : List Int) : List Value := (List.range M).map fun (v : Nat) => Value.bool (inL ord (v : Int))
theorem burntM_nil (M : Nat) : List.replicate M (Value.bool false) = burntM M [] := by
  apply List.ext_getElem?
  intro u
  by_cases h : u < M
  · simp [burntM, h, inL]
  · rw [List.getElem?_eq_none (by simp; omega), List.getElem?_eq_none (by simp [burntM]; omega)]
theorem burntM_at {M u : Nat} (ord : List Int) (h : u < M) : (burntM M ord)[u]? = some (.bool (inL ord (u : Int))) := by simp [burntM, h]
theorem burntM_set (M u : Nat) (ord : List Int) : (burntM M ord).set u (.bool true) = burntM M (ord ++ [(u : Int)]) := by
  apply List.ext_getElem?
  intro i
  by_cases hi : i < M
  · rw [burntM_at _ hi]
    by_cases e : i = u
    · subst e
      rw [List.getElem?_set_self (by simp [burntM]; exact hi)]
      simp [inL]
    · rw [List.getElem?_set_ne (Ne.symm e), burntM_at _ hi]
      have : ¬ ((i : Int) = (u : Int)) := by omega
      simp [inL, this]
  · rw [List.getElem?_eq_none (by simp [burntM]; omega), List.getElem?_eq_none (by simp [burntM]; omega)]
theorem own_ne {w : World} {base n b : Nat} {v : Value} {xs : List Value} {cs : Array Value} (h : w.ownsRow base 3 1 v n xs) (hb : Blk w b 4 cs) : v.ownBlock ≠ some b := by
  intro he
  rcases h.2 with ⟨rfl, _⟩ | ⟨g, cap, cur, rfl, _, hg, _⟩
  · simp [Value.ownBlock] at he
  · simp only [Value.ownBlock, Option.some.injEq] at he
    subst he
    have h2 : w.heap[g]? = some (.cells cs 4 (0, 0)) := hb
    rw [hg] at h2
    simp at h2
theorem own_keep {w w' : World} {base n : Nat} {t : TypeId} {v : Value} {xs : List Value} (h : w.ownsRow base t 1 v n xs) (hk : ∀ g, v.ownBlock = some g → w'.heap[g]? = w.heap[g]?) : w'.ownsRow base t 1 v n xs := by
  refine ⟨h.1, ?_⟩
  rcases h.2 with g | ⟨g, cap, cur, hv, hb, hh, rest⟩
  · exact .inl g
  · refine .inr ⟨g, cap, cur, hv, hb, ?_, rest⟩
    rw [hk g (by rw [hv]; rfl)]
    exact hh
theorem own_below {w w' : World} {base n : Nat} {t : TypeId} {v : Value} {xs : List Value} (h : w.ownsRow base t 1 v n xs) (hb : Below w.heap.size w w') : w'.ownsRow base t 1 v n xs := own_moves h (belowMv hb 0) (Nat.zero_le _)
/-- what the burning of the specification holds -/
structure BurnW (w wr : World) (M : Nat) (A : Option Addr) (c : Nat) (es : List (Int × Int)) (v : Value) (ord : List Int) : Prop where
  box : Blk wr w.heap.size 25 #[.int .i64 (M : Int), .slice A es.length c]
  own : wr.ownsRow (w.heap.size + 1) 3 1 v ord.length (intCells ord)
  marks : Blk wr (w.heap.size + 1 + 1) 4 (burntM M ord).toArray
  old : Below w.heap.size w wr
theorem BurnW.next {w wr w2 : World} {M : Nat} {A : Option Addr} {c : Nat} {es : List (Int × Int)} {v : Value} {ord : List Int} (h : BurnW w wr M A c es v ord) (hb : Below wr.heap.size wr w2) : BurnW w w2 M A c es v ord :=
  ⟨h.box.below hb h.box.lt, own_below h.own hb, h.marks.below hb h.marks.lt, h.old.trans (hb.mono h.old.size)⟩
theorem warms_count (a b : Int) (hab : a ≠ b) (u : Nat) (hu : (u : Int) = a) : ∀ es : List (Int × Int), (∀ e ∈ es, e.1 < e.2) → warms b u es = (es.count (min a b, max a b) : Int)
  | [], _ => by simp [warms]
  | e :: l, h => by
    have h1 := h e (by simp)
    rw [warms, warms_count a b hab u hu l (fun x hx => h x (by simp [hx])), List.count_cons]
    have key : warm b u e = if e == (min a b, max a b) then 1 else 0 := by
      obtain ⟨x, y⟩ := e
      simp only at h1
      unfold warm ind
      rw [hu]
      by_cases g1 : b = x
      · subst g1
        rw [if_pos rfl]
        by_cases g2 : a = y
        · subst g2
          rw [if_pos rfl, Int.min_eq_right (by omega), Int.max_eq_left (by omega)]
          simp
        · rw [if_neg g2]
          have : ¬ ((b, y) == (min a b, max a b)) = true := by
            simp only [beq_iff_eq, Prod.mk.injEq]
            omega
          rw [if_neg this]
      · rw [if_neg g1]
        by_cases g2 : b = y
        · subst g2
          rw [if_pos rfl]
          by_cases g3 : a = x
          · subst g3
            rw [if_pos rfl, Int.min_eq_left (by omega), Int.max_eq_right (by omega)]
            simp
          · rw [if_neg g3]
            have : ¬ ((x, b) == (min a b, max a b)) = true := by
              simp only [beq_iff_eq, Prod.mk.injEq]
              omega
            rw [if_neg this]
        · rw [if_neg g2]
          have : ¬ ((x, y) == (min a b, max a b)) = true := by
            simp only [beq_iff_eq, Prod.mk.injEq]
            omega
          rw [if_neg this]
    rw [key]
    split <;> simp <;> omega
theorem warms_self (u : Nat) : ∀ es : List (Int × Int), (∀ e ∈ es, e.1 < e.2) → warms (u : Int) u es = 0
  | [], _ => rfl
  | e :: l, h => by
    have h1 := h e (by simp)
    rw [warms, warms_self u l (fun x hx => h x (by simp [hx]))]
    unfold warm ind
    repeat' split
    all_goals omega
theorem multB_warms {M u k : Nat} {es : List (Int × Int)} (hu : u < M) (hk : k < M) (h : ∀ e ∈ es, e.1 < e.2) : multB (M : Int) es (u : Int) (k : Int) = warms (k : Int) u es := by
  by_cases e : u = k
  · subst e
    rw [multB_no (.inr (.inr rfl)), warms_self u es h]
  · rw [multB_yes (vB_t (by omega)) (vB_t (by omega)) (by omega), warms_count (u : Int) (k : Int) (by omega) u rfl es h]
theorem sumH_lo (es : List (Int × Int)) (p : Int → Bool) (u : Nat) (h : ∀ e ∈ es, 0 ≤ e.1 ∧ e.1 < e.2) (k : Nat) : 0 ≤ sumH es p u k ∧ sumH es p u k ≤ 2 * es.length := by
  rw [sumH_eq es p u h k]
  exact heat_lo _ _ _
/-- the least vertex above z that catches fire, or -1 -/
def Above (M : Nat) (es : List (Int × Int)) (d ord : List Int) (z nx : Int) : Prop :=
  (nx = -1 ∧ ∀ j : Nat, j < M → z < (j : Int) → catchV es d ord j = false) ∨ (∃ j0 : Nat, nx = (j0 : Int) ∧ j0 < M ∧ z < (j0 : Int) ∧ catchV es d ord j0 = true ∧ ∀ j : Nat, j < j0 → z < (j : Int) → catchV es d ord j = false)
theorem Above.start (M : Nat) (es : List (Int × Int)) (d ord : List Int) : Above M es d ord ((M : Int) - 1) (-1) := .inl ⟨rfl, fun j hj h => by omega⟩
theorem Above.miss {M : Nat} {es : List (Int × Int)} {d ord : List Int} {v : Nat} {nx : Int} (h : Above M es d ord (v : Int) nx) (hc : catchV es d ord v = false) : Above M es d ord ((v : Int) - 1) nx := by
  rcases h with ⟨h1, h2⟩ | ⟨j0, h1, h2, h3, h4, h5⟩
  · refine .inl ⟨h1, fun j hj hz => ?_⟩
    by_cases e : j = v
    · rw [e]; exact hc
    · exact h2 j hj (by omega)
  · refine .inr ⟨j0, h1, h2, by omega, h4, fun j hj hz => ?_⟩
    by_cases e : j = v
    · rw [e]; exact hc
    · exact h5 j hj (by omega)
theorem Above.hit {M : Nat} {es : List (Int × Int)} {d ord : List Int} {v : Nat} (hv : v < M) (hc : catchV es d ord v = true) : Above M es d ord ((v : Int) - 1) (v : Int) :=
  .inr ⟨v, rfl, hv, by omega, hc, fun j hj hz => by omega⟩
theorem Above.end_ {M : Nat} {es : List (Int × Int)} {d ord : List Int} {nx : Int} (h : Above M es d ord (-1) nx) : (nx = -1 ∧ nextV M es d ord = none) ∨ ∃ v : Nat, nx = (v : Int) ∧ nextV M es d ord = some v := by
  rcases h with ⟨h1, h2⟩ | ⟨j0, h1, h2, h3, h4, h5⟩
  · exact .inl ⟨h1, nextV_none fun v hv => h2 v hv (by omega)⟩
  · exact .inr ⟨j0, h1, nextV_some h2 h4 fun j hj => h5 j hj (by omega)⟩
theorem Above.lo {M : Nat} {es : List (Int × Int)} {d ord : List Int} {z nx : Int} (h : Above M es d ord z nx) : -1 ≤ nx ∧ nx < (M : Int) := by
  rcases h with ⟨h1, h2⟩ | ⟨j0, h1, h2, h3, h4, h5⟩ <;> omega

set_option maxRecDepth 100000 in
set_option maxHeartbeats 4000000 in
theorem l05Burn_any (A D : Option Addr) (c cd M q : Nat) (es : List (Int × Int)) (d : List Int) (w : World) (hM0 : 0 < M) (hM : M ≤ 6) (hq : q < M) (hd : d.length = M) (hn : es.length ≤ 12) (hes : ∀ e ∈ es, 0 ≤ e.1 ∧ e.1 < e.2 ∧ e.2 < (M : Int))
    (hE : EdgeS w w.heap.size A es) (hS : IntS w w.heap.size D d) :
    Calls Try.prog 117 #[.agg #[.int .i64 (M : Int), .slice A es.length c], .slice D d.length cd, .int .i64 (q : Int)] w (GivesInts w (burntL M es d (q : Int))) := by
  obtain ⟨i0, hi, hz0, hz1, hz2⟩ := info_parts intInfo
  have hmk := make_bools M (by omega)
  have HE := Lib.hid hE
  have HS := Lib.hid hS
  have HES := Lib.hid hes
  have HD := Lib.hid hd
  have hM1 : (0 : Int) ≤ (M : Int) := Int.natCast_nonneg _
  have hq0 : (0 : Int) ≤ (q : Int) := Int.natCast_nonneg _
  have hq1 : (q : Int) < (M : Int) := by omega
  have hM7 : (M : Int) ≤ 6 := by omega
  have hmm : (Array.replicate M (Value.bool false)).setIfInBounds q (Value.bool true) = (burntM M [(q : Int)]).toArray := by
    rw [← List.toArray_replicate, List.setIfInBounds_toArray, burntM_nil, burntM_set]
    rfl
  obtain ⟨W0, hW0⟩ : ∃ X : World, X = ((w.alloc (.cells #[.int .i64 (M : Int), .slice A es.length c] 25)).alloc (.cells #[.int .i64 (q : Int)] 3)).alloc (.cells ((Array.replicate M (Value.bool false)).setIfInBounds q (Value.bool true)) 4) := ⟨_, rfl⟩
  have hb0 : Below w.heap.size w W0 := by rw [hW0]; exact (((Below.refl _ _).alloc (Nat.le_refl _) _).alloc (by simp) _).alloc (by simp; omega) _
  have g0 := ((Blk.new w 25 #[.int .i64 (M : Int), .slice A es.length c]).alloc (.cells #[.int .i64 (q : Int)] 3)).alloc (.cells ((Array.replicate M (Value.bool false)).setIfInBounds q (Value.bool true)) 4)
  rw [← hW0] at g0
  have g1 := (Blk.new (w.alloc (.cells #[.int .i64 (M : Int), .slice A es.length c] 25)) 3 #[.int .i64 (q : Int)]).alloc (.cells ((Array.replicate M (Value.bool false)).setIfInBounds q (Value.bool true)) 4)
  rw [← hW0, World.size_alloc] at g1
  have g2 := Blk.new ((w.alloc (.cells #[.int .i64 (M : Int), .slice A es.length c] 25)).alloc (.cells #[.int .i64 (q : Int)] 3)) 4 ((Array.replicate M (Value.bool false)).setIfInBounds q (Value.bool true))
  rw [← hW0, World.size_alloc, World.size_alloc, hmm] at g2
  have hw0 : BurnW w W0 M A c es (.slice (some ⟨w.heap.size + 1, 0, none⟩) 1 1) [(q : Int)] :=
    ⟨g0, ⟨rfl, .inr ⟨w.heap.size + 1, 1, #[.int .i64 (q : Int)], rfl, Nat.le_refl _, g1, Nat.le_refl _, by unfold maxLen; omega, rfl, rfl⟩⟩, g2, hb0⟩
  have HW0 := Lib.hid hW0
  have HB0 := Lib.hid hw0
  have MU := fun (u k : Nat) (w' : World) (hu : u < M) (hk : k < M) (hb : Below w.heap.size w w') => Lib.hid (show Calls Try.prog 107 #[.agg #[.int .i64 (M : Int), .slice A es.length c], .int .i64 (u : Int), .int .i64 (k : Int)] w' fun e w'' => e = .returned (.int .i64 (warms (k : Int) u es)) ∧ Below w'.heap.size w' w'' by
    rw [← multB_warms hu hk (fun e he => (hes e he).2.1)]
    exact specMultU (M : Int) A c es (u : Int) (k : Int) w' (by omega) (hE.up_ hb))
  have HI1 : Hid (BurnI M es d (q : Int) [(q : Int)]) := Lib.hid (BurnI.start (by omega))
  clear hE hS hes hd hW0 hb0 g0 g1 g2 hw0 hmm
  go_enter Try.func117, Try.ntmps117
  go_wp2
  go_loopg [7, 9, 10, 11, 12] (M - 1) (fun gk s7 _ _ _ _ wr => ∃ (ord : List Int) (A7 : Option Addr) (c7 : Nat), s7 = .slice A7 ord.length c7 ∧ Hid (gk + ord.length = M) ∧ Hid (BurnI M es d (q : Int) ord) ∧ Hid (BurnW w wr M A c es (.slice A7 ord.length c7) ord))
  case atStart => exact ⟨[(q : Int)], some ⟨w.heap.size + 1, 0, none⟩, 1, rfl, Lib.hid (by simp; omega), HI1, Lib.hid (by rw [← HW0.out]; exact HB0.out)⟩
  case round =>
    obtain ⟨ord, A7, c7, rfl, HG, HI, HB⟩ := hrel
    clear HI1 HB0 hmk HW0
    have hlM := HI.out.toBurns.len
    have hl0 : 0 < ord.length := List.length_pos_of_mem HI.out.toBurns.first
    have hl6 : ord.length ≤ 6 := by omega
    have c0 : wr.cell? ⟨w.heap.size, 0, none⟩ = some (.int .i64 (M : Int)) := by rw [HB.out.box.cell]; rfl
    obtain ⟨gx, rfl⟩ : ∃ gx : Nat, gx = gk := ⟨_, rfl⟩
    obtain ⟨wo, rfl⟩ : ∃ wo : World, wo = wr := ⟨_, rfl⟩
    go_wp2
    go_loopg [9, 10, 11, 12] M (fun gj s9 s10 _ _ wx => ∃ (z nx : Int), s9 = .int .i64 nx ∧ s10 = .int .i64 z ∧ -1 ≤ z ∧ z < (M : Int) ∧ (gj : Int) = z + 1 ∧ Hid (Above M es d ord z nx) ∧ Hid (BurnW w wx M A c es (.slice A7 ord.length c7) ord))
    case atStart => exact ⟨(M : Int) - 1, -1, rfl, rfl, by omega, by omega, by omega, Lib.hid (Above.start M es d ord), HB⟩
    case round =>
      obtain ⟨z, nx, rfl, rfl, hza, hzb, hgz, HA, HB2⟩ := hrel
      clear c0
      have c0 : wr.cell? ⟨w.heap.size, 0, none⟩ = some (.int .i64 (M : Int)) := by rw [HB2.out.box.cell]; rfl
      by_cases hz : 0 ≤ z
      · obtain ⟨v, rfl⟩ : ∃ v : Nat, z = (v : Int) := ⟨z.toNat, by omega⟩
        have hvM : v < M := by omega
        obtain ⟨gy, rfl⟩ : ∃ gy : Nat, gy = gk := ⟨_, rfl⟩
        obtain ⟨wp, rfl⟩ : ∃ wp : World, wp = wr := ⟨_, rfl⟩
        go_wp2
        go_loopg [11, 12] M (fun gi s11 s12 wy => ∃ k : Nat, k ≤ M ∧ gi + k = M ∧ s12 = .int .i64 k ∧ s11 = .int .i64 (sumH es (inL ord) v k) ∧ Hid (BurnW w wy M A c es (.slice A7 ord.length c7) ord))
        case atStart => exact ⟨0, Nat.zero_le _, by omega, rfl, rfl, HB2⟩
        case round =>
          obtain ⟨k, hk, hgk, rfl, rfl, HB3⟩ := hrel
          clear c0
          have c0 : wr.cell? ⟨w.heap.size, 0, none⟩ = some (.int .i64 (M : Int)) := by rw [HB3.out.box.cell]; rfl
          have c1 : wr.cell? ⟨w.heap.size, 1, none⟩ = some (.slice A es.length c) := by rw [HB3.out.box.cell]; rfl
          have hk0 : (0 : Int) ≤ (k : Int) := Int.natCast_nonneg _
          have hv1 : (v : Int) < (M : Int) := by omega
          by_cases hlt : k < M
          · have hk1 : (k : Int) < (M : Int) := by omega
            have mk : wr.cell? ⟨w.heap.size + 1 + 1, k, none⟩ = some (.bool (inL ord (k : Int))) := by rw [HB3.out.marks.cell]; simp [burntM_at ord hlt]
            have hlo := sumH_lo es (inL ord) v (fun e he => ⟨(HES.out e he).1, (HES.out e he).2.1⟩) k
            have hlo2 := sumH_lo es (inL ord) v (fun e he => ⟨(HES.out e he).1, (HES.out e he).2.1⟩) (k + 1)
            cases hb : inL ord (k : Int) with
            | true =>
              rw [hb] at mk
              have HQ := Lib.hid (show sumH es (inL ord) v (k + 1) = sumH es (inL ord) v k + warms (k : Int) v es by rw [sumH, if_pos hb])
              rw [HQ.out] at hlo2
              obtain ⟨sk, hsk⟩ : ∃ x, x = sumH es (inL ord) v k := ⟨_, rfl⟩
              have HM := MU v k wr hvM hlt HB3.out.old
              obtain ⟨wk, hwk⟩ : ∃ x, x = warms (k : Int) v es := ⟨_, rfl⟩
              rw [← hwk] at HM hlo2 HQ
              rw [← hsk] at hlo hlo2 HQ ⊢
              clear hb hsk hwk
              go_wp2_with fail
              refine HM.out.mono ?_
              rintro e w2 ⟨rfl, hb2⟩
              have HB4 := Lib.hid (HB3.out.next hb2)
              clear hb2
              go_wp2
              go_roundg (gk - 1)
              case measure => omega
              case rel => exact ⟨k + 1, by omega, by omega, by go_num, by rw [HQ.out], HB4⟩
            | false =>
              rw [hb] at mk
              have HQ := Lib.hid (show sumH es (inL ord) v (k + 1) = sumH es (inL ord) v k by rw [sumH, if_neg (by rw [hb]; decide)]; omega)
              clear hb
              go_wp2
              go_roundg (gk - 1)
              case measure => omega
              case rel => exact ⟨k + 1, by omega, by omega, by go_num, by rw [HQ.out], HB3⟩
          · have hkM : k = M := by omega
            have HQ := Lib.hid (show sumH es (inL ord) v k = heat (inL ord) v es by rw [hkM]; exact sumH_all es (inL ord) v M HES.out)
            rw [HQ.out]
            have mk : wr.cell? ⟨w.heap.size + 1 + 1, v, none⟩ = some (.bool (inL ord (v : Int))) := by rw [HB3.out.marks.cell]; simp [burntM_at ord hvM]
            obtain ⟨bd, od, x, hDe, hbd, hx, hcx⟩ := (HS.out.below HB3.out.old).at_ (k := v) (by have := HD.out; omega)
            subst hDe
            have HDV := Lib.hid (show d.getD v 0 = x by simp [List.getD, hx])
            have hdl : (v : Int) < (d.length : Int) := by have := HD.out; omega
            have HCV := Lib.hid (show catchV es d ord v = (decide (x < heat (inL ord) v es) && !inL ord (v : Int)) by rw [catchV, HDV.out])
            obtain ⟨hh, hhh⟩ : ∃ x, x = heat (inL ord) v es := ⟨_, rfl⟩
            rw [← hhh] at HCV ⊢
            clear hx hhh hkM
            cases hb : inL ord (v : Int) with
            | true =>
              rw [hb] at mk HCV
              have HA2 := Lib.hid (HA.out.miss (by rw [HCV.out]; simp))
              clear hb
              go_wp2
              go_roundg (gy - 1)
              case measure => omega
              case rel => exact ⟨(v : Int) - 1, nx, rfl, by go_num, by omega, by omega, by omega, HA2, HB3⟩
            | false =>
              rw [hb] at mk HCV
              clear hb
              by_cases hl : x < hh
              · have t1 : decide (x < hh) = true := decide_eq_true hl
                have HA2 := Lib.hid (Above.hit hvM (HCV.out.trans (by simp [hl])) (es := es) (d := d) (ord := ord))
                clear hl
                go_wp2
                go_roundg (gy - 1)
                case measure => omega
                case rel => exact ⟨(v : Int) - 1, (v : Int), rfl, by go_num, by omega, by omega, by omega, HA2, HB3⟩
              · have t1 : decide (x < hh) = false := decide_eq_false hl
                have HA2 := Lib.hid (HA.out.miss (HCV.out.trans (by simp [t1])))
                clear hl
                go_wp2
                go_roundg (gy - 1)
                case measure => omega
                case rel => exact ⟨(v : Int) - 1, nx, rfl, by go_num, by omega, by omega, by omega, HA2, HB3⟩
      · have hz3 : z = -1 := by omega
        subst hz3
        rcases HA.out.end_ with ⟨rfl, hn1⟩ | ⟨v, rfl, hn1⟩
        · have HND := Lib.hid (HI.out.done hn1)
          clear hn1 hz
          go_wp2
          go_ret
          rw [← HND.out]
          exact ⟨A7, c7, rfl, (OwnI.of_own HB2.out.own).mono (by omega), HB2.out.old⟩
        · obtain ⟨hvM, hcv⟩ := nextV_get hn1
          have HNV := Lib.hid (catchV_iff.1 hcv).2
          have HI4 := Lib.hid (HI.out.push hn1)
          have hlt := HI.out.toBurns.len_lt hvM HNV.out
          have mk : wr.cell? ⟨w.heap.size + 1 + 1, v, none⟩ = some (.bool false) := by rw [HB2.out.marks.cell]; simp [burntM_at ord hvM, inL, HNV.out]
          have hf := HB2.out.marks.frozen v
          have hv0 : (0 : Int) ≤ (v : Int) := Int.natCast_nonneg _
          have hv1 : (v : Int) < (M : Int) := by omega
          have hv2 : ¬ (v : Int) < 0 := by omega
          have hne := own_ne HB2.out.own HB2.out.marks
          have hsw := HB2.out.marks.lt
          have own1 : (wr.setCell ⟨w.heap.size + 1 + 1, v, none⟩ (.bool true)).ownsRow (w.heap.size + 1) 3 1 (.slice A7 ord.length c7) ord.length (intCells ord) :=
            own_keep HB2.out.own fun b hb => Below.heap_setCell wr ⟨w.heap.size + 1 + 1, v, none⟩ (.bool true) b (fun he => hne (by rw [hb, he]))
          have mk1 := HB2.out.marks.set_ v (.bool true)
          rw [List.setIfInBounds_toArray, burntM_set] at mk1
          have bx1 := HB2.out.box.far (p := ⟨w.heap.size + 1 + 1, v, none⟩) (by simp only; omega) (.bool true)
          have old1 := HB2.out.old.setCell (p := ⟨w.heap.size + 1 + 1, v, none⟩) (by simp only; omega) (.bool true)
          have hs1 : (wr.setCell ⟨w.heap.size + 1 + 1, v, none⟩ (.bool true)).heap.size = wr.heap.size := by simp [World.setCell]
          have OW := Lib.hid (own_below own1 ((Below.refl _ _).alloc (Nat.le_refl _) (.cells #[.int .i64 (v : Int)] 3)))
          have BX := Lib.hid (bx1.alloc (.cells #[.int .i64 (v : Int)] 3))
          have MK := Lib.hid (mk1.alloc (.cells #[.int .i64 (v : Int)] 3))
          have OL := Lib.hid (old1.alloc (by rw [hs1]; omega) (.cells #[.int .i64 (v : Int)] 3))
          clear hn1 hcv own1 mk1 bx1 old1 hz hne
          go_wp2_with (at_builtin; refine wpList_append_own _ rfl _ _ 27 rfl (w.heap.size + 1) 3 i0 (.int .i64 0) 1 8 Try.underlying27 hi hz0 hz1 hz2 rfl (by decide) _ _ _ rfl OW.out ⟨_, 0, none⟩ 1 1 [.int .i64 (v : Int)] rfl rfl ?c1 ?c2 ?c3 ?c4 ?c5 ?_)
          case c2 => simp [Value.oneCell']
          case c3 => unfold maxLen; omega
          case c4 => omega
          case c5 =>
            have := HB2.out.old.size
            first | omega | (simp; omega) | (simp [World.setCell]; omega)
          intro v' w3 hown' hgrow _
          have hown2 : w3.ownsRow (w.heap.size + 1) 3 1 v' (ord.length + 1) (intCells (ord ++ [(v : Int)])) := by rw [← cells_snoc]; exact hown'
          obtain ⟨A8, c8, hv8, hlen⟩ := own_slice hown2
          rw [hlen] at hown2
          have hbx3 := BX.out.grown hgrow (by
            intro hq
            have := (OW.out.lt _ hq).1
            omega)
          have hmk3 := MK.out.grown hgrow (own_ne OW.out MK.out)
          have hol3 := OL.out.grown hgrow (by simp [World.setCell]; omega) (fun q hq => by have := (OW.out.lt q hq).1; omega)
          subst hv8
          have HB4 := Lib.hid (show BurnW w w3 M A c es (.slice A8 (ord ++ [(v : Int)]).length c8) (ord ++ [(v : Int)]) from ⟨hbx3, hown2, hmk3, hol3⟩)
          clear hown' hown2 hgrow hbx3 hmk3 hol3 hlen
          go_wp2
          go_roundg (gx - 1)
          case measure => have := HG.out; omega
          case rel => exact ⟨ord ++ [(v : Int)], A8, c8, rfl, Lib.hid (by have := HG.out; simp; omega), HI4, HB4⟩
end Go.Proofs.Ytcfhkaefjhcglaa
