/- The program's burn: which vertices burn, in their order. -/
import Derived.Test.YtcfhkaefjhcglaaBlaze
import Derived.Deep.LoopGhost
namespace Go.Proofs.Ytcfhkaefjhcglaa
open Go.RowKit

theorem Chips.of_blk {w : World} {g : Nat} {t : TypeId} {l : List Int} (h : Blk w g t (intCells l).toArray) : Chips w g l := ⟨h.lt, fun i z hz => ⟨by rw [h.cell]; simp [intCells, hz], h.frozen _⟩⟩
theorem chips_zero (M : Nat) : intCells (List.replicate M 0) = intCells (chipsOf M fun _ => 0) := by
  apply List.ext_getElem?
  intro u
  by_cases h : u < M
  · simp [intCells, chipsOf, h]
    exact (wrap64_of (by omega) (by omega)).symm
  · rw [List.getElem?_eq_none (by simp [intCells]; omega), List.getElem?_eq_none (by simp [intCells, chipsOf_len]; omega)]
/-- the heat of a fire that burns in the vertices of ord -/
def HeatIs (es : List (Int × Int)) (ord : List Int) (h : Nat → Int) : Prop := ∀ u, h u = heat (inL ord) u es
theorem HeatIs.push {es : List (Int × Int)} {ord : List Int} {h : Nat → Int} {v : Nat} (hh : HeatIs es ord h) (hn : ¬ (v : Int) ∈ ord) (hes : ∀ e ∈ es, e.1 < e.2) : HeatIs es (ord ++ [(v : Int)]) (fun u => h u + warms (v : Int) u es) := fun u => by
  show h u + warms (v : Int) u es = _
  rw [inL_snoc, heat_light (inL ord) (v : Int) (by simp [inL, hn]) u es hes, hh u]
theorem HeatIs.nil (es : List (Int × Int)) : HeatIs es [] (fun _ => 0) := fun u => (heat_none (fun x => by simp [inL]) u es).symm
theorem HeatIs.catch_ {es : List (Int × Int)} {d ord : List Int} {h : Nat → Int} (hh : HeatIs es ord h) (v : Nat) : catchH d h ord v = catchV es d ord v := by rw [catchH, catchV, hh v]
theorem HeatIs.wrap_ {es : List (Int × Int)} {ord : List Int} {h : Nat → Int} (hh : HeatIs es ord h) (hn : es.length ≤ 12) (u : Nat) : wrap64 (h u) = h u := by
  have := heat_lo (inL ord) u es
  rw [hh u]
  exact wrap64_of (by omega) (by omega)
/-- a fire that has burnt out -/
def GivesFire (w : World) (M : Nat) (es : List (Int × Int)) (d : List Int) (q : Int) (pb : Nat) (e : Ending) (w' : World) : Prop :=
  ∃ (base pf gh ch : Nat) (h : Nat → Int), e = .returned (.pointer (some ⟨pf, 0, none⟩)) ∧ Blaze w' w.heap.size base pf gh ch pb M (burntL M es d q) h ∧ HeatIs es (burntL M es d q) h ∧ Below w.heap.size w w'
set_option maxRecDepth 100000 in
set_option maxHeartbeats 4000000 in
theorem burn_any (pb g cg cA M q : Nat) (A : Option Addr) (es : List (Int × Int)) (d : List Int) (w : World) (hM0 : 0 < M) (hM : M ≤ 6) (hq : q < M) (hd : d.length = M) (hn : es.length ≤ 12) (hes : ∀ e ∈ es, 0 ≤ e.1 ∧ e.1 < e.2 ∧ e.2 < (M : Int))
    (hpb : pb < w.heap.size) (hB : Blk w pb 69 #[.slice A es.length cA, .slice (some ⟨g, 0, none⟩) M cg]) (hC : Chips w g d) (hE : EdgeS w w.heap.size A es) :
    Calls Try.prog 129 #[.pointer (some ⟨pb, 0, none⟩), .int .i64 (q : Int)] w (GivesFire w M es d (q : Int) pb) := by
  have hmk := make_ints M (by omega)
  have q0 : w.cell? ⟨pb, 1, none⟩ = some (.slice (some ⟨g, 0, none⟩) M cg) := by rw [hB.cell]; rfl
  have hgl := hC.lt
  have HB := Lib.hid hB
  have HC := Lib.hid hC
  have HE := Lib.hid hE
  have HES := Lib.hid hes
  have HD := Lib.hid hd
  have hM1 : (0 : Int) ≤ (M : Int) := Int.natCast_nonneg _
  -- the new fire
  obtain ⟨W0, hW0⟩ : ∃ X : World, X = (w.alloc (.cells (intCells (List.replicate M 0)).toArray 3)).alloc (.cells #[.pointer (some ⟨pb, 0, none⟩), .slice none 0 0, .slice (some ⟨w.heap.size, 0, none⟩) M M] 135) := ⟨_, rfl⟩
  have hb0 : Below w.heap.size w W0 := by rw [hW0]; exact ((Below.refl _ _).alloc (Nat.le_refl _) _).alloc (by simp) _
  have hz0 : Blaze W0 w.heap.size (w.heap.size + 2) (w.heap.size + 1) w.heap.size M pb M [] (fun _ => 0) := by
    have h1 := Blk.new w 3 (intCells (List.replicate M 0)).toArray
    rw [chips_zero] at h1
    have h2 := Blk.new (w.alloc (.cells (intCells (List.replicate M 0)).toArray 3)) 135 #[.pointer (some ⟨pb, 0, none⟩), .slice none 0 0, .slice (some ⟨w.heap.size, 0, none⟩) M M]
    rw [World.size_alloc, ← hW0] at h2
    refine ⟨⟨none, 0, h2, ⟨rfl, .inl ⟨rfl, rfl⟩⟩⟩, ?_, Nat.le_refl _, by omega, by omega, by omega, by omega, by rw [hW0]; simp⟩
    rw [hW0, chips_zero]
    exact (Chips.of_blk h1).below ((Below.refl _ _).alloc (Nat.le_refl _) _)
  have HZ0 := Lib.hid hz0
  have HB0 := Lib.hid hb0
  have HW0 := Lib.hid hW0
  have LT := fun (ord : List Int) (h : Nat → Int) (v : Nat) (w' : World) (ho : ord.length ≤ 6) (hb : Below w.heap.size w w') (hz : Blaze w' w.heap.size (w.heap.size + 2) (w.heap.size + 1) w.heap.size M pb M ord h) =>
    Lib.hid (light_any w.heap.size (w.heap.size + 2) (w.heap.size + 1) w.heap.size M pb M cA A es ord h v (.slice (some ⟨g, 0, none⟩) M cg) w' hn ho hes hpb (hB.below hb hpb) (hE.below hb) hz)
  have CT := fun (ord : List Int) (h : Nat → Int) (v : Nat) (w' : World) (hv : v < M) (ho : ord.length ≤ 6) (h0 : 0 < ord.length) (hh : HeatIs es ord h) (hb : Below w.heap.size w w') (hz : Blaze w' w.heap.size (w.heap.size + 2) (w.heap.size + 1) w.heap.size M pb M ord h) =>
    Lib.hid (catches_any w.heap.size (w.heap.size + 2) (w.heap.size + 1) w.heap.size M pb M g cg (.slice A es.length cA) d ord h v w' hv hd ho h0 (fun u _ => hh.wrap_ hn u) (hB.below hb hpb) (hC.below hb) hz)
  clear hB hC hE hes hd hz0 hb0 hW0
  go_enter Try.func129, Try.ntmps129
  go_wp2_with fail
  go_step3
  go_wp2_with fail
  rw [← HW0.out]
  refine (LT [] (fun _ => 0) q W0 (by simp) HB0.out HZ0.out).out.mono ?_
  rintro e w1 ⟨rfl, hz1, hb1⟩
  have HI1 : Hid (BurnI M es d (q : Int) [(q : Int)]) := Lib.hid (BurnI.start (by omega))
  have HH1 := Lib.hid ((HeatIs.nil es).push (v := q) (by simp) (fun e he => (HES.out e he).2.1))
  have HZ1 := Lib.hid hz1
  have HB1 := Lib.hid (HB0.out.trans hb1)
  clear hz1 hb1 HZ0 HB0 HW0 hmk q0
  go_wp2
  go_step3
  go_wp2
  go_loopg [6] (M - 1) (fun gk _ wr => ∃ (ord : List Int) (h : Nat → Int), Hid (gk + ord.length = M) ∧ Hid (BurnI M es d (q : Int) ord) ∧ Hid (HeatIs es ord h) ∧ Hid (Blaze wr w.heap.size (w.heap.size + 2) (w.heap.size + 1) w.heap.size M pb M ord h) ∧ Hid (Below w.heap.size w wr))
  case atStart => exact ⟨_, _, Lib.hid (by simp; omega), HI1, HH1, HZ1, HB1⟩
  case round =>
    obtain ⟨ord, h, HG, HI, HH, HZ, HBw⟩ := hrel
    clear HI1 HH1 HZ1 HB1
    have hlM := HI.out.toBurns.len
    have hl0 : 0 < ord.length := List.length_pos_of_mem HI.out.toBurns.first
    have hl6 : ord.length ≤ 6 := by omega
    obtain ⟨gx, rfl⟩ : ∃ gx : Nat, gx = gk := ⟨_, rfl⟩
    obtain ⟨wo, rfl⟩ : ∃ wo : World, wo = wr := ⟨_, rfl⟩
    go_wp2
    go_loopg [6] M (fun gj i wx => ∃ v : Nat, v < M ∧ gj + v = M ∧ i = .int .i64 v ∧ Hid (∀ j, j < v → catchV es d ord j = false) ∧ Hid (Blaze wx w.heap.size (w.heap.size + 2) (w.heap.size + 1) w.heap.size M pb M ord h) ∧ Hid (Below w.heap.size w wx))
    case atStart => exact ⟨0, hM0, by omega, rfl, Lib.hid (fun j hj => absurd hj (by omega)), HZ, HBw⟩
    case round =>
      obtain ⟨v, hv, hgv, rfl, HN, HZ2, HB2⟩ := hrel
      have hv0 : (0 : Int) ≤ (v : Int) := Int.natCast_nonneg _
      have hv1 : (v : Int) < 6 := by omega
      have HCT := CT ord h v wr hv hl6 hl0 HH.out HB2.out HZ2.out
      have hcc := HH.out.catch_ (d := d) v
      rw [hcc] at HCT
      clear hcc
      cases hcv : catchV es d ord v with
      | true =>
        rw [hcv] at HCT
        have HNX := Lib.hid (nextV_some hv hcv HN.out)
        have HNV := Lib.hid (catchV_iff.1 hcv).2
        clear hcv
        go_wp2_with fail
        refine HCT.out.mono ?_
        rintro e w2 ⟨rfl, hb2⟩
        have HZ3 := Lib.hid (HZ2.out.below hb2)
        have HB3 := Lib.hid (HB2.out.trans (hb2.mono HB2.out.size))
        clear hb2
        go_wp2_with fail
        refine (LT ord h v w2 hl6 HB3.out HZ3.out).out.mono ?_
        rintro e w3 ⟨rfl, hz3, hb3⟩
        have HZ4 := Lib.hid hz3
        have HB4 := Lib.hid (HB3.out.trans hb3)
        have HI4 := Lib.hid (HI.out.push HNX.out)
        have HH4 := Lib.hid (HH.out.push HNV.out (fun e he => (HES.out e he).2.1))
        have hlt := HI.out.toBurns.len_lt hv HNV.out
        clear hz3 hb3
        go_wp2
        go_roundg (gx - 1)
        case measure => have := HG.out; omega
        case rel => exact ⟨_, _, Lib.hid (by have := HG.out; simp; omega), HI4, HH4, HZ4, HB4⟩
      | false =>
        rw [hcv] at HCT
        have HN2 : Hid (∀ j, j < v + 1 → catchV es d ord j = false) := Lib.hid (fun j hj => by
          rcases Nat.lt_or_ge j v with g | g
          · exact HN.out j g
          · rw [show j = v by omega]; exact hcv)
        clear hcv
        go_wp2_with fail
        refine HCT.out.mono ?_
        rintro e w2 ⟨rfl, hb2⟩
        have q2 : w2.cell? ⟨pb, 1, none⟩ = some (.slice (some ⟨g, 0, none⟩) M cg) := by
          have := HB.out.below (HB2.out.trans (hb2.mono HB2.out.size)) hpb
          rw [this.cell]; rfl
        have HZ3 := Lib.hid (HZ2.out.below hb2)
        have HB3 := Lib.hid (HB2.out.trans (hb2.mono HB2.out.size))
        clear hb2
        by_cases he : v + 1 = M
        · have t1 : ((v : Int) + 1 == (M : Int)) = true := by rw [beq_iff_eq]; omega
          have HND := Lib.hid (HI.out.done (nextV_none fun j hj => HN2.out j (by omega)))
          clear he
          go_wp2
          try rw [Exit.noGoto_ret]
          go_ret
          have hz := HZ3.out
          have hh := HH.out
          rw [HND.out] at hz hh
          exact ⟨_, _, _, _, h, rfl, hz, hh, HB3.out⟩
        · have t1 : ((v : Int) + 1 == (M : Int)) = false := by rw [beq_eq_false_iff_ne]; omega
          have HV2 := Lib.hid (show v + 1 < M by omega)
          clear he
          go_wp2
          go_roundg (gk - 1)
          case measure => omega
          case rel => exact ⟨v + 1, HV2.out, by omega, by go_num, HN2, HZ3, HB3⟩
end Go.Proofs.Ytcfhkaefjhcglaa
