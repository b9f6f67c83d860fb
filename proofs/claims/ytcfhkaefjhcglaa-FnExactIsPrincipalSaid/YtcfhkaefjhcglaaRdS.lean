/- The specification's l05Reduce. -/
import Derived.Test.YtcfhkaefjhcglaaRdQ
import Derived.Test.YtcfhkaefjhcglaaFireS
namespace Go.Proofs.Ytcfhkaefjhcglaa
open Go.RowKit

/-- what the reducing of the specification holds -/
structure RdW (w wr : World) (M : Nat) (A : Option Addr) (c : Nat) (es : List (Int × Int)) (d : List Int) (f : Nat → Int) (A9 : Option Addr) : Prop where
  box : GB w wr (M : Int) A c es
  scr : Chips wr (w.heap.size + 1) (chipsOf M f)
  out : OwnI wr (w.heap.size + 1 + 1) A9 (chipsOf M (Dv d es f))
section
variable {w wr w2 : World} {M : Nat} {A A9 : Option Addr} {c : Nat} {es : List (Int × Int)} {d : List Int} {f g : Nat → Int}
theorem RdW.next (h : RdW w wr M A c es d f A9) (hb : Below wr.heap.size wr w2) : RdW w w2 M A c es d f A9 := ⟨h.box.next hb, h.scr.below hb, h.out.below hb⟩
theorem RdW.size (h : RdW w wr M A c es d f A9) : w.heap.size + 1 + 1 ≤ wr.heap.size := h.scr.lt
theorem RdW.fired (h1 : GB w wr (M : Int) A c es) (h2 : Chips wr (w.heap.size + 1) (chipsOf M f)) (hb : Below wr.heap.size wr w2) {A2 : Option Addr} (ho : OwnI w2 wr.heap.size A2 (chipsOf M (Dv d es f))) : RdW w w2 M A c es d f A2 :=
  ⟨h1.next hb, h2.below hb, ho.mono h2.lt⟩
theorem GB.store (h : GB w wr (M : Int) A c es) (v : Nat) (x : Value) : GB w (wr.setCell ⟨w.heap.size + 1, v, none⟩ x) (M : Int) A c es := ⟨h.box.far (by simp only; omega) _, h.old.setCell (by simp only; omega) _⟩
end
/-- a reduced divisor and its script, both new memory -/
def GivesRed (w : World) (M : Nat) (es : List (Int × Int)) (d : List Int) (q : Nat) (e : Ending) (w' : World) : Prop :=
  ∃ (A1 A2 : Option Addr) (c1 c2 : Nat) (f : Nat → Int), e = .returned (.tuple #[.slice A1 M c1, .slice A2 M c2]) ∧ IsRed M es d q f ∧ OwnI w' w.heap.size A1 (chipsOf M (Dv d es f)) ∧ OwnI w' w.heap.size A2 (chipsOf M f) ∧ Below w.heap.size w w'
theorem chips_cell {w : World} {g M v : Nat} {f : Nat → Int} (h : Chips w g (chipsOf M f)) (hv : v < M) (hf : -1000000000 ≤ f v ∧ f v ≤ 1000000000) : w.cell? ⟨g, v, none⟩ = some (.int .i64 (f v)) ∧ w.frozen? ⟨g, v, none⟩ = false := by
  have := h.cell v _ (chipsOf_at f hv)
  rw [wrap64_of (by omega) (by omega)] at this
  exact this
theorem chips_store {w : World} {g M v : Nat} {f : Nat → Int} (h : Chips w g (chipsOf M f)) (hv : v < M) (t : Int) (hf : -1000000000 ≤ f v + t ∧ f v + t ≤ 1000000000) : Chips (w.setCell ⟨g, v, none⟩ (.int .i64 (f v + t))) g (chipsOf M (addAt f v t)) := by
  have := h.set_ (a := v) (by rw [chipsOf_len]; exact hv) (f v + t)
  rw [chipsOf_set M f v (f v + t) t (wrap64_of (by omega) (by omega)).symm] at this
  exact this

set_option maxRecDepth 100000 in
set_option maxHeartbeats 8000000 in
theorem l05Reduce_any (A D : Option Addr) (c cd M q : Nat) (es : List (Int × Int)) (d : List Int) (w : World) (hM0 : 0 < M) (hM : M ≤ 6) (hq : q < M) (hd : d.length = M) (hn : es.length ≤ 12) (hes : ∀ e ∈ es, 0 ≤ e.1 ∧ e.1 < e.2 ∧ e.2 < (M : Int)) (hdb : ∀ u, -60 ≤ d.getD u 0 ∧ d.getD u 0 ≤ 60) (hc : Cut M es)
    (hE : EdgeS w w.heap.size A es) (hS : IntS w w.heap.size D d) :
    Calls Try.prog 83 #[.agg #[.int .i64 (M : Int), .slice A es.length c], .slice D d.length cd, .int .i64 (q : Int)] w (GivesRed w M es d q) := by
  obtain ⟨i0, hi, hz0, hz1, hz2⟩ := info_parts intInfo
  obtain ⟨σ, hw⟩ := wt_exists hM hn hq hes hc
  have hmk := make_ints M (by omega)
  obtain ⟨bd, od, rfl, hbd, hcd⟩ := hS (by omega)
  have hdw : ∀ x ∈ d, -9223372036854775808 ≤ x ∧ x ≤ 9223372036854775807 := fun x hx => by
    obtain ⟨i, hi⟩ := List.getElem?_of_mem hx
    have := hdb i
    simp [List.getD, hi] at this
    omega
  have FI := fun (f : Nat → Int) (w' : World) (hf : ∀ u, u < M → -1000000000 ≤ f u ∧ f u ≤ 1000000000) (hb : Below w.heap.size w w') (hC : Chips w' (w.heap.size + 1) (chipsOf M f)) =>
    Lib.hid (show Calls Try.prog 116 #[.agg #[.int .i64 (M : Int), .slice A es.length c], .slice (some ⟨bd, od, none⟩) M cd, .slice (some ⟨w.heap.size + 1, 0, none⟩) M M] w' (fun e w'' => ∃ (A2 : Option Addr) (c2 : Nat), e = .returned (.slice A2 M c2) ∧ OwnI w'' w'.heap.size A2 (chipsOf M (Dv d es f)) ∧ Below w'.heap.size w' w'') from by
      have h := l04Fire_any (M : Int) M A (some ⟨bd, od, none⟩) (some ⟨w.heap.size + 1, 0, none⟩) c cd M es d (chipsOf M f) w' hM0 hM hn hd (chipsOf_len M f) hdw hes (hE.up_ hb) (hS.up_ hb) hC.ints
      rw [chipsOf_len, hd] at h
      refine h.mono ?_
      rintro e w'' ⟨A2, c2, rfl, ho, hbb⟩
      rw [fired_Dv hes hf] at ho
      exact ⟨A2, c2, by rw [firedB_len], ho, hbb⟩)
  have DBT := fun (f : Nat → Int) (A9 : Option Addr) (c9 : Nat) (w' : World) (B : Nat) (hI : OwnI w' B A9 (chipsOf M (Dv d es f))) =>
    Lib.hid (show Calls Try.prog 115 #[.slice A9 M c9, .int .i64 (q : Int)] w' (fun e w'' => e = .returned (.bool (hasDebt (chipsOf M (Dv d es f)) (q : Int))) ∧ w'' = w') from by
      have h := l05Debt_any A9 c9 w'.heap.size (chipsOf M (Dv d es f)) (q : Int) w' (by rw [chipsOf_len]; omega) hI.ints
      rw [chipsOf_len] at h
      exact h)
  have BRN := fun (f : Nat → Int) (A9 : Option Addr) (c9 : Nat) (w' : World) (B : Nat) (hb : Below w.heap.size w w') (hI : OwnI w' B A9 (chipsOf M (Dv d es f))) =>
    Lib.hid (show Calls Try.prog 117 #[.agg #[.int .i64 (M : Int), .slice A es.length c], .slice A9 M c9, .int .i64 (q : Int)] w' (GivesInts w' (burntL M es (chipsOf M (Dv d es f)) (q : Int))) from by
      have h := l05Burn_any A A9 c c9 M q es (chipsOf M (Dv d es f)) w' hM0 hM hq (chipsOf_len _ _) hn hes (hE.up_ hb) hI.ints
      rw [chipsOf_len] at h
      exact h)
  have HN := Lib.hid hn
  have HW := Lib.hid hw
  have HES := Lib.hid hes
  have HDB := Lib.hid hdb
  have HDL := Lib.hid hd
  rw [hd]
  have HST := Lib.hid (chips_start hd hdw)
  have hM1 : (0 : Int) ≤ (M : Int) := Int.natCast_nonneg _
  have hM7 : (M : Int) ≤ 6 := by omega
  have HCD := Lib.hid hcd
  -- the first world: box, script, an empty slice
  obtain ⟨W0, hW0⟩ : ∃ X : World, X = (w.alloc (.cells #[.int .i64 (M : Int), .slice A es.length c] 25)).alloc (.cells (intCells (List.replicate M 0)).toArray 3) := ⟨_, rfl⟩
  have hs0 : W0.heap.size = w.heap.size + 1 + 1 := by rw [hW0]; simp
  have g0 : GB w W0 (M : Int) A c es := by
    rw [hW0]
    exact (GB.start w (M : Int) A c es).next ((Below.refl _ _).alloc (Nat.le_refl _) _)
  have g1 : Chips W0 (w.heap.size + 1) (chipsOf M fun _ => 0) := by
    have h1 := Blk.new (w.alloc (.cells #[.int .i64 (M : Int), .slice A es.length c] 25)) 3 (intCells (List.replicate M 0)).toArray
    rw [← hW0, World.size_alloc, chips_zero] at h1
    exact Chips.of_blk h1
  have hO0 := own_emptyF W0 (w.heap.size + 1 + 1) (by omega) 3
  rw [hs0] at hO0
  have hbA : Below W0.heap.size W0 (W0.alloc (Obj.cells #[] 3)) := (Below.refl _ _).alloc (Nat.le_refl _) _
  rw [hW0] at hO0
  have HO0 := Lib.hid hO0
  have HG0 := Lib.hid (g0.next hbA)
  have HC0 := Lib.hid (g1.below hbA)
  have HW0 := Lib.hid hW0
  have HS0 := Lib.hid hs0
  clear hO0 hE hS hes hdb hd hcd hdw hw hW0 g0 g1 hbA hs0 hc
  go_enter Try.func83, Try.ntmps83
  go_wp2_with (at_builtin; refine wpList_append_own _ rfl _ _ 27 rfl (w.heap.size + 1 + 1) 3 i0 (.int .i64 0) 1 8 Try.underlying27 hi hz0 hz1 hz2 rfl (by decide) _ _ _ rfl HO0.out ⟨bd, od, none⟩ M cd (intCells d) rfl ?k0 ?k1 ?k2 ?k3 ?k4 ?k5 ?_)
  case k0 => simp [intCells, HDL.out]
  case k1 =>
    intro j u hj
    simp only [intCells, List.getElem?_map, Option.map_eq_some_iff] at hj
    obtain ⟨z, hz, rfl⟩ := hj
    rw [Addr.add_lit]
    have := HCD.out j z hz
    exact ((((Below.refl w.heap.size w).alloc (Nat.le_refl _) _).alloc (by simp) _).alloc (by simp; omega) _ |>.cell (p := ⟨bd, od + j, none⟩) hbd).trans this
  case k2 =>
    intro u hu
    simp only [intCells, List.mem_map] at hu
    obtain ⟨z, _, rfl⟩ := hu
    rfl
  case k3 => unfold maxLen; omega
  case k4 => omega
  case k5 => simp
  intro v' w1 hown hgrow _
  obtain ⟨g, cg, rfl, hg, hch⟩ := Chips.of_own (l := d) hown (by omega)
  have hR1 : RdW w w1 M A c es d (fun _ => 0) (some ⟨g, 0, none⟩) := by
    rw [← HW0.out] at hgrow
    have hs1 := HS0.out
    refine ⟨⟨HG0.out.box.grown hgrow (fun hq => ?_), HG0.out.old.grown hgrow HG0.out.old.size (fun q hq => ?_)⟩, ?_, ?_⟩
    · have := (HO0.out.lt _ hq).1
      omega
    · have := (HO0.out.lt _ hq).1
      omega
    · refine ⟨Nat.lt_of_lt_of_le HC0.out.lt hgrow.size, fun i z hz => ?_⟩
      have hk := hgrow.block (w.heap.size + 1) HC0.out.lt (fun hq => by
        have := (HO0.out.lt _ hq.symm).1
        omega)
      obtain ⟨a1, a2⟩ := HC0.out.cell i z hz
      exact ⟨(World.cell?_of_block (a := ⟨w.heap.size + 1, i, none⟩) hk).trans a1, (World.frozen?_of_block (a := ⟨w.heap.size + 1, i, none⟩) hk).trans a2⟩
    · rw [show chipsOf M (Dv d es fun _ => 0) = d from by
        rw [← HST.out]
        exact chipsOf_eq fun u _ => by rw [HST.out, Dv, termsF_zero (fun _ => rfl)]; omega]
      exact hch.own hg
  have HR1 := Lib.hid hR1
  have HP1 := Lib.hid (Ph1.start (M := M) (es := es) (d := d) (q := q) HDB.out)
  clear hR1 hown hgrow hch HO0 HG0 HC0 HW0 HS0 HST HCD hmk hi hz0 hz1 hz2
  go_wp2
  go_loopg [9, 10] 16287120 (fun gk s9 _ wr => ∃ (A9 : Option Addr) (c9 : Nat) (f : Nat → Int), s9 = .slice A9 M c9 ∧ Hid ((gk : Int) = 16287120 + sumV f M) ∧ Hid (Ph1 M es d q f) ∧ Hid (RdW w wr M A c es d f A9))
  case atStart => exact ⟨some ⟨g, 0, none⟩, cg, fun _ => 0, by simp, Lib.hid (by rw [sumV_const]; simp), HP1, HR1⟩
  case round =>
    obtain ⟨A9, c9, f, rfl, HG, HP, HR⟩ := hrel
    clear HR1 HP1
    have HF := Lib.hid (HP.out.wide HW.out hM HES.out HDB.out)
    have HX := DBT f A9 c9 wr _ HR.out.out
    cases hdt : hasDebt (chipsOf M (Dv d es f)) (q : Int) with
    | true =>
      rw [hdt] at HX
      have HDT := Lib.hid hdt
      clear hdt
      obtain ⟨gx, rfl⟩ : ∃ gx : Nat, gx = gk := ⟨_, rfl⟩
      obtain ⟨wo, rfl⟩ : ∃ wo : World, wo = wr := ⟨_, rfl⟩
      go_wp2_with fail
      refine HX.out.mono ?_
      rintro e w2 ⟨rfl, rfl⟩
      go_wp2
      go_loopg [9, 10, 24] M (fun gj s9 _ s24 wx => ∃ (k : Nat) (A8 : Option Addr) (c8 : Nat) (f2 : Nat → Int), k ≤ M ∧ gj + k = M ∧ s24 = .int .i64 k ∧ s9 = .slice A8 M c8 ∧ Hid ((f2 = f ∧ ∀ j, j < k → debtAt (chipsOf M (Dv d es f)) (q : Int) j = false) ∨ sumV f2 M < sumV f M) ∧ Hid (Ph1 M es d q f2) ∧ Hid (RdW w wx M A c es d f2 A8))
      case atStart => exact ⟨0, A9, c9, f, Nat.zero_le _, by omega, rfl, rfl, Lib.hid (.inl ⟨rfl, fun j hj => absurd hj (by omega)⟩), HP, HR⟩
      case round =>
        obtain ⟨k, A8, c8, f2, hk, hgk, rfl, rfl, HJ, HP2, HR2⟩ := hrel
        have HF2 := Lib.hid (HP2.out.wide HW.out hM HES.out HDB.out)
        have HJL := Lib.hid (show sumV f2 M ≤ sumV f M from by
          rcases HJ.out with ⟨rfl, _⟩ | h
          · exact Int.le_refl _
          · omega)
        clear HX
        by_cases hlt : k < M
        · have hi0 : (0 : Int) ≤ (k : Int) := Int.natCast_nonneg _
          have hi1 : (k : Int) < (M : Int) := by omega
          obtain ⟨b8, o8, hA8, hb8, hl8, hc8⟩ := HR2.out.out (by rw [chipsOf_len]; exact hM0)
          have hx := (hc8 k _ (chipsOf_at _ hlt)).1
          have hxb := Dv_bound (M := M) (f := f2) (d := d) HN.out (fun u => by have := HDB.out u; omega) HES.out HF2.out k
          rw [wrap64_of (by omega) (by omega)] at hx
          obtain ⟨hs1, hs2⟩ := chips_cell HR2.out.scr hlt (HF2.out k hlt)
          have hyb := HP2.out.low HW.out hM HES.out HDB.out k hlt
          have HDK := Lib.hid (show debtAt (chipsOf M (Dv d es f2)) (q : Int) k = (!decide ((k : Int) = (q : Int)) && decide (Dv d es f2 k < 0)) from debt_Dv HN.out HDB.out HES.out HF2.out hlt)
          obtain ⟨x, hxx⟩ : ∃ x, x = Dv d es f2 k := ⟨_, rfl⟩
          obtain ⟨y, hyy⟩ : ∃ y, y = f2 k := ⟨_, rfl⟩
          rw [← hxx] at hx hxb HDK
          rw [← hyy] at hs1 hyb
          have HXX := Lib.hid hxx
          have HYY := Lib.hid hyy
          subst hA8
          clear hc8 hxx hyy hb8 hl8
          by_cases hkq : k = q
          · have t1 : ((k : Int) != (q : Int)) = false := by simp [hkq]
            have HJ2 : Hid ((f2 = f ∧ ∀ j, j < k + 1 → debtAt (chipsOf M (Dv d es f)) (q : Int) j = false) ∨ sumV f2 M < sumV f M) := Lib.hid (by
              rcases HJ.out with ⟨rfl, h⟩ | h
              · refine .inl ⟨rfl, fun j hj => ?_⟩
                by_cases e : j = k
                · rw [e, HDK.out]; simp [hkq]
                · exact h j (by omega)
              · exact .inr h)
            clear hkq
            go_wp2
            go_roundg (gk - 1)
            case measure => omega
            case rel => exact ⟨k + 1, _, c8, f2, by omega, by omega, by go_num, rfl, HJ2, HP2, HR2⟩
          · have t1 : ((k : Int) != (q : Int)) = true := by simp; omega
            by_cases hx0 : x < 0
            · have t2 : decide (x < 0) = true := decide_eq_true hx0
              have HP3 := Lib.hid (HP2.out.one HN.out HES.out hkq (by rw [← HXX.out]; exact hx0))
              have hcs := chips_store HR2.out.scr hlt (-1) (by rw [← HYY.out]; omega)
              rw [← HYY.out, show y + -1 = y - 1 by omega] at hcs
              have HF3 := Lib.hid (HP3.out.wide HW.out hM HES.out HDB.out)
              have gb3 := HR2.out.box.store k (.int .i64 (y - 1))
              have HFI := FI _ _ HF3.out gb3.old hcs
              have HS3 := Lib.hid (show sumV (addAt f2 k (-1)) M < sumV f M from by
                rw [sumV_addAt, if_pos hlt]
                have := HJL.out
                omega)
              have hc0 := HR2.out.box.c0
              have hc1 := HR2.out.box.c1
              have HGB := Lib.hid gb3
              have HCS := Lib.hid hcs
              have hd0 := gb3.c0
              have hd1 := gb3.c1
              clear hkq hx0 hcs gb3
              go_wp2_with fail
              refine HFI.out.mono ?_
              rintro e w3 ⟨A3, c3, rfl, ho3, hb3⟩
              have HR3 := Lib.hid (RdW.fired HGB.out HCS.out hb3 ho3)
              clear ho3 hb3 hs1 hs2 hx HFI HGB HCS hc0 hc1 hd0 hd1
              go_wp2
              go_roundg (gk - 1)
              case measure => omega
              case rel => exact ⟨k + 1, A3, c3, addAt f2 k (-1), by omega, by omega, by go_num, rfl, Lib.hid (.inr HS3.out), HP3, HR3⟩
            · have t2 : decide (x < 0) = false := decide_eq_false hx0
              have HJ2 : Hid ((f2 = f ∧ ∀ j, j < k + 1 → debtAt (chipsOf M (Dv d es f)) (q : Int) j = false) ∨ sumV f2 M < sumV f M) := Lib.hid (by
                rcases HJ.out with ⟨rfl, h⟩ | h
                · refine .inl ⟨rfl, fun j hj => ?_⟩
                  by_cases e : j = k
                  · rw [e, HDK.out]; simp [t2]
                  · exact h j (by omega)
                · exact .inr h)
              clear hkq hx0
              go_wp2
              go_roundg (gk - 1)
              case measure => omega
              case rel => exact ⟨k + 1, _, c8, f2, by omega, by omega, by go_num, rfl, HJ2, HP2, HR2⟩
        · have HLT := Lib.hid (show sumV f2 M < sumV f M from by
            rcases HJ.out with ⟨rfl, h⟩ | h
            · have h1 := HDT.out
              rw [hasDebt, List.any_eq_true, chipsOf_len] at h1
              obtain ⟨j, hj, h2⟩ := h1
              rw [h j (by have := List.mem_range.1 hj; omega)] at h2
              cases h2
            · exact h)
          have HLO := Lib.hid (HP2.out.sum HW.out hM HES.out HDB.out)
          go_wp2
          go_roundg (16287120 + sumV f2 M).toNat
          case measure =>
            have h1 := HG.out
            have h2 := HLT.out
            have h3 := HLO.out
            omega
          case rel => exact ⟨A8, c8, f2, rfl, Lib.hid (by have := HLO.out; omega), HP2, HR2⟩
    | false =>
      rw [hdt] at HX
      have HP2 := Lib.hid (HP.out.end_ HW.out hM HES.out HDB.out (noDebt HN.out HDB.out HES.out HF.out hdt))
      have HSM := Lib.hid (HP2.out.sum HW.out hM HES.out)
      clear hdt HP HF
      go_wp2_with fail
      refine HX.out.mono ?_
      rintro e w2 ⟨rfl, rfl⟩
      clear HX HG
      go_wp2
      go_loopg [9, 11, 12] (8143560 - sumV f M).toNat (fun gk s9 _ _ wr => ∃ (A9 : Option Addr) (c9 : Nat) (f : Nat → Int), s9 = .slice A9 M c9 ∧ Hid ((gk : Int) = 8143560 - sumV f M) ∧ Hid (Ph2 M es d q σ f) ∧ Hid (RdW w wr M A c es d f A9))
      case atStart => exact ⟨A9, c9, f, rfl, Lib.hid (by have := HSM.out; omega), HP2, HR⟩
      case round =>
        clear HP2 HSM HR
        obtain ⟨A9, c9, f, rfl, HG, HP, HR⟩ := hrel
        have HF := Lib.hid (HP.out.high HW.out hM HES.out)
        have HB := BRN f A9 c9 wr _ HR.out.box.old HR.out.out
        have hbt := burntL_all (M := M) (es := es) (d := chipsOf M (Dv d es f)) (q := (q : Int)) (by omega)
        have HPN := Lib.hid (HP.out.one HW.out hM HN.out hq HDB.out HES.out)
        obtain ⟨bs, hbs⟩ : ∃ x, x = burntL M es (chipsOf M (Dv d es f)) (q : Int) := ⟨_, rfl⟩
        rw [← hbs] at HB hbt HPN
        have HBU := Lib.hid hbt.1
        have hbl := hbt.1.len
        have HBS := Lib.hid hbs
        have c0 := HR.out.box.c0
        have c1 := HR.out.box.c1
        obtain ⟨gx, rfl⟩ : ∃ gx : Nat, gx = gk := ⟨_, rfl⟩
        obtain ⟨wo, rfl⟩ : ∃ wo : World, wo = wr := ⟨_, rfl⟩
        clear hbt hbs
        go_wp2_with fail
        refine HB.out.mono ?_
        rintro e w2 ⟨Ab, cb, rfl, hob, hb2⟩
        have HR2 := Lib.hid (HR.out.next hb2)
        have HOB := Lib.hid (hob.mono HR.out.size)
        clear hob hb2 HB c0 c1
        have c0 := HR2.out.box.c0
        by_cases hl : bs.length = M
        · have t1 : ((bs.length : Int) == (M : Int)) = true := by simp [hl]
          have HIR := Lib.hid (HP.out.red HW.out hM HES.out (by rw [← HBS.out]; exact hl))
          clear hl
          go_wp2
          go_ret2
          exact ⟨A9, some ⟨w.heap.size + 1, 0, none⟩, c9, M, f, rfl, HIR.out, HR2.out.out.mono (by omega), HR2.out.scr.own (by omega), HR2.out.box.old⟩
        · have t1 : ((bs.length : Int) == (M : Int)) = false := by rw [beq_eq_false_iff_ne]; omega
          have HMO := Lib.hid (Ph2.more HBU.out hl)
          clear hl
          go_wp2
          go_loopg [12] M (fun gj s12 wx => ∃ k : Nat, k ≤ M ∧ gj + k = M ∧ s12 = .int .i64 k ∧ Hid (GB w wx (M : Int) A c es) ∧ Hid (Chips wx (w.heap.size + 1) (chipsOf M (addSet f (upU bs k) 1))) ∧ Hid (OwnI wx (w.heap.size + 1 + 1) Ab bs))
          case atStart => exact ⟨0, Nat.zero_le _, by omega, rfl, Lib.hid HR2.out.box, Lib.hid (by rw [upU_zero]; exact HR2.out.scr), HOB⟩
          case round =>
            obtain ⟨k, hk, hgk, rfl, HGB, HCS, HOB2⟩ := hrel
            clear c0
            have c0 := HGB.out.c0
            by_cases hlt : k < M
            · have hi0 : (0 : Int) ≤ (k : Int) := Int.natCast_nonneg _
              have hi1 : (k : Int) < (M : Int) := by omega
              have HL := Lib.hid (l02Has_any Ab cb bs (k : Int) wr (by omega) HOB2.out.ints)
              rw [inL_contains] at HL
              cases hc : inL bs (k : Int) with
              | true =>
                rw [hc] at HL
                have HC2 := HCS.out
                rw [← upU_in f hc] at HC2
                have HC3 := Lib.hid HC2
                clear hc HC2
                go_wp2_with fail
                refine HL.out.mono ?_
                rintro e w3 ⟨rfl, rfl⟩
                go_wp2
                go_roundg (gk - 1)
                case measure => omega
                case rel => exact ⟨k + 1, by omega, by omega, by go_num, HGB, HC3, HOB2⟩
              | false =>
                rw [hc] at HL
                have hy0 := HF.out k hlt
                have hat : addSet f (upU bs k) 1 k = f k := upU_at f
                obtain ⟨hs1, hs2⟩ := chips_cell HCS.out hlt (by rw [hat]; exact hy0)
                have hcs := chips_store HCS.out hlt 1 (by
                  rw [hat]
                  have h1 := (HPN.out.high HW.out hM HES.out k hlt).2
                  unfold addSet upU at h1
                  rw [if_pos (by simp [hc]; omega)] at h1
                  omega)
                rw [← upU_out f hc, hat] at hcs
                rw [hat] at hs1
                obtain ⟨y, hyy⟩ : ∃ y, y = f k := ⟨_, rfl⟩
                rw [← hyy] at hs1 hcs hy0
                have HC3 := Lib.hid hcs
                have HG3 := Lib.hid (HGB.out.store k (.int .i64 (y + 1)))
                have hmv : Moves (w.heap.size + 1) (w.heap.size + 1 + 1) wr (wr.setCell ⟨w.heap.size + 1, k, none⟩ (.int .i64 (y + 1))) := (Moves.refl _ _ _).set_ k _
                have HO3 := Lib.hid (HOB2.out.moves hmv (Nat.le_refl _))
                clear hc hat hcs hyy hmv
                go_wp2_with fail
                refine HL.out.mono ?_
                rintro e w3 ⟨rfl, rfl⟩
                go_wp2
                go_roundg (gk - 1)
                case measure => omega
                case rel => exact ⟨k + 1, by omega, by omega, by go_num, HG3, HC3, HO3⟩
            · have hkM : k = M := by omega
              have HC2 := HCS.out
              rw [hkM] at HC2
              have HC3 := Lib.hid HC2
              have HF3 := Lib.hid (HPN.out.high HW.out hM HES.out)
              have HFI := FI _ _ HF3.out HGB.out.old HC3.out
              have HS3 := Lib.hid (addSet_sum (M := M) (f := f) (U := upU bs M) (t := 1) (by omega) HMO.out)
              have HS4 := Lib.hid (HPN.out.sum HW.out hM HES.out)
              have c1 := HGB.out.c1
              clear HC2 hkM
              go_wp2_with fail
              refine HFI.out.mono ?_
              rintro e w3 ⟨A3, c3, rfl, ho3, hb3⟩
              have HR3 := Lib.hid (RdW.fired HGB.out HC3.out hb3 ho3)
              clear ho3 hb3 c0 c1
              go_wp2
              go_roundg (8143560 - sumV (addSet f (upU bs M) 1) M).toNat
              case measure =>
                have h1 := HG.out
                have h2 := HS3.out
                have h3 := HS4.out
                omega
              case rel => exact ⟨A3, c3, _, rfl, Lib.hid (by have := HS4.out; omega), HPN, HR3⟩
end Go.Proofs.Ytcfhkaefjhcglaa
