/- The program's crossEdges. -/
import Derived.Test.YtkmbdclhjdbhpabCrossM
namespace Go.Proofs.Ytkmbdclhjdbhpab
open Go.RowKit

theorem blk_set1 {w : World} {g : Nat} {t : TypeId} {zs : List Int} (h : Blk w g t (intCells zs).toArray) (u : Nat) (x : Int) : Blk (w.setCell ⟨g, u, none⟩ (.int .i64 x)) g t (intCells (zs.set u x)).toArray := by
  have h2 := h.set_ u (.int .i64 x)
  rw [List.setIfInBounds_toArray] at h2
  have : (intCells zs).set u (.int .i64 x) = intCells (zs.set u x) := by simp [intCells, List.map_set]
  rwa [this] at h2
theorem blk_get {w : World} {g : Nat} {t : TypeId} {zs : List Int} (h : Blk w g t (intCells zs).toArray) {u : Nat} {x : Int} (hx : zs[u]? = some x) : w.cell? ⟨g, u, none⟩ = some (.int .i64 x) := by
  rw [h.cell]; simp [intCells, hx]
/-- the ends handled so far -/
def ends (ds : List Int) (a b : Nat) (x : Int) : Nat → List Int
  | 0 => ds
  | 1 => setIf ds a x
  | _ => setIf (setIf ds a x) b x
theorem ends_len (ds : List Int) (a b : Nat) (x : Int) (j : Nat) : (ends ds a b x j).length = ds.length := by
  match j with
  | 0 => rfl
  | 1 => simp [ends, setIf_len]
  | _ + 2 => simp [ends, setIf_len]

def BelowAll (B g : Nat) (w w' : World) : Prop := ∀ base, base ≤ B → base ≤ g → base ≤ w.heap.size → Below base w w'

set_option maxRecDepth 100000 in
set_option maxHeartbeats 4000000 in
theorem cross_any (B g c : Nat) (es0 : List (Int × Int)) (ds : List Int) (L sz : Nat) (w : World) (hL : L ≤ 1048576) (hW : ∀ e ∈ es0, WfE e ∧ 0 ≤ e.1 ∧ e.1.toNat < ds.length ∧ 0 ≤ e.2 ∧ e.2.toNat < ds.length) (hM : MS w B es0 sz)
    (hD : Blk w g 3 (intCells ds).toArray) (hne : B ≠ g) :
    Calls Try.prog 110 #[.map (some B), .slice (some ⟨g, 0, none⟩) ds.length c, .int .i64 L] w fun e w' => ∃ (left : Int × Int → Bool) (esc : List (Int × Int)) (dsc : List Int) (sz' : Nat),
      e = .returned (.bool (decide (sz' < sz))) ∧ Mid es0 ds L sz left esc dsc sz' ∧ (∀ e ∈ es0, left e = false) ∧ MS w' B esc sz' ∧ Blk w' g 3 (intCells dsc).toArray ∧ BelowAll B g w w' := by
  have HM := Lib.hid hM
  have HD := Lib.hid hD
  have HW := Lib.hid hW
  have hgl := hD.lt
  have hBl := hM.lt
  clear hM hD hW
  go_enter Try.func110, Try.ntmps110
  go_wp2_with (first | (at_len; refine wp_len_ms _ rfl _ rfl _ _ _ rfl HM.out ?_) | (at_range; refine wp_range_ms _ rfl _ rfl _ _ _ rfl HM.out ?_; intro w3 cnt0 hrg0 hb3 hsz3))
  go_frame
  have hd3 := HD.out.below hb3 hgl
  go_loopw [15] (fun _ wr => ∃ (left : Int × Int → Bool) (esc : List (Int × Int)) (dsc : List Int) (cnt sz' : Nat), RS wr B w.heap.size esc left cnt sz' ∧ Mid es0 ds L sz left esc dsc sz' ∧ Blk wr g 3 (intCells dsc).toArray ∧ BelowAll B g w wr ∧ w.heap.size < wr.heap.size)
    (fun _ wr => wr.rangeLeft B w.heap.size)
  case atStart => exact ⟨_, es0, ds, cnt0, sz, hrg0, Mid.start _ _ _ _, hd3, fun base _ _ h => hb3.mono h, by omega⟩
  case round =>
    obtain ⟨left, esc, dsc, cnt, sz', hrs, hmid, hblk, hbel, hlt⟩ := hrel
    have HR := Lib.hid hrs
    have HMid := Lib.hid hmid
    have HK := Lib.hid hblk
    have HB := Lib.hid hbel
    have hln := hmid.len
    have hgr := hblk.lt
    clear hrs hmid hblk hbel hrg0 hd3 hsz3 hb3
    go_wp2_with (at_next; refine wp_next_rs _ rfl _ rfl _ _ esc left cnt sz' rfl HR.out ?_ ?_)
    · intro hdone
      have HA : Hid (∀ e ∈ es0, left e = false) := Lib.hid fun e he => hdone e.1 e.2 (HW.out e he).1
      clear hdone
      go_wp2_with (at_len; refine wp_len_ms _ rfl _ rfl _ _ _ rfl HR.out.ms ?_)
      go_ret
      exact ⟨left, esc, dsc, sz', by simp, HMid.out, HA.out, HR.out.ms, HK.out, HB.out⟩
    · intro x0 y0 w4 cnt4 hwe hle hrs4 hlt4 hg4 hs4 hen
      have hin := HMid.out.sub (x0, y0) (by assumption)
      have hin2 := (HMid.out.rest (x0, y0)).2 ⟨hin, .inl (by assumption)⟩
      have hleft : left (x0, y0) = true := by assumption
      obtain ⟨_, hx0, hxl, hy0, hyl⟩ := HW.out _ hin
      obtain ⟨x, rfl⟩ : ∃ x : Nat, x0 = (x : Int) := ⟨x0.toNat, by simp only at hx0; omega⟩
      obtain ⟨y, rfl⟩ : ∃ y : Nat, y0 = (y : Int) := ⟨y0.toNat, by simp only at hy0; omega⟩
      simp only [Int.toNat_natCast] at hxl hyl
      obtain ⟨p, hp⟩ : ∃ p, dsc[x]? = some p := ⟨_, List.getElem?_eq_getElem (by omega)⟩
      obtain ⟨q, hq⟩ : ∃ q, dsc[y]? = some q := ⟨_, List.getElem?_eq_getElem (by omega)⟩
      have hk4 := HK.out.grown hg4 (by simp; omega)
      have hp4 := blk_get (hk4.alloc (Obj.cells #[.int .i64 (x : Int), .int .i64 (y : Int)] 67)) hp
      have hq4 := blk_get (hk4.alloc (Obj.cells #[.int .i64 (x : Int), .int .i64 (y : Int)] 67)) hq
      have hrs5 := hrs4.alloc (Obj.cells #[.int .i64 (x : Int), .int .i64 (y : Int)] 67)
      have B5 : BelowAll B g w (w4.alloc (Obj.cells #[.int .i64 (x : Int), .int .i64 (y : Int)] 67)) := fun base h1 h2 h3 => (((HB.out base h1 h2 h3).grown hg4 (by omega) (fun k hk => by cases hk; omega)).alloc (by omega) _)
      have hs4a : w4.heap.size ≤ wr.heap.size := by omega
      have hs4b : wr.heap.size ≤ w4.heap.size := by omega
      clear hs4
      have hix0 : (0 : Int) ≤ (x : Int) := Int.natCast_nonneg _
      have hix1 : (x : Int) < (ds.length : Int) := by omega
      have hiy0 : (0 : Int) ≤ (y : Int) := Int.natCast_nonneg _
      have hiy1 : (y : Int) < (ds.length : Int) := by omega
      have HK5 := Lib.hid (hk4.alloc (Obj.cells #[.int .i64 (x : Int), .int .i64 (y : Int)] 67))
      have hcp := Blk.new w4 67 #[.int .i64 (x : Int), .int .i64 (y : Int)]
      have HCP := Lib.hid hcp
      have HR5 := Lib.hid hrs5
      have HP := Lib.hid hp
      have HQ := Lib.hid hq
      have HL := Lib.hid HR.out.left_eq
      have HIN := Lib.hid hin
      have HIN2 := Lib.hid hin2
      have HLE := Lib.hid hleft
      have HWE := Lib.hid hwe
      clear hrs4 hrs5 hk4 hcp hp hq hin hin2 hleft hwe hle
      by_cases hhit : p = L ∨ q = L
      · have HH : Hid (Hit ds L ((x : Int), (y : Int))) := Lib.hid (by
          unfold Hit
          simp only [Int.toNat_natCast]
          rw [← HMid.out.same (by omega), ← HMid.out.same (by omega), HP.out, HQ.out]
          rcases hhit with h | h
          · exact .inl (by rw [h])
          · exact .inr (by rw [h]))
        have hsame : (fun f : Int × Int => (left f && !(f == ((x : Int), (y : Int)))) && !(f == ((x : Int), (y : Int)))) = fun f => left f && !(f == ((x : Int), (y : Int))) := by
          funext f; cases left f <;> cases (f == ((x : Int), (y : Int))) <;> rfl
        have HS := Lib.hid hsame
        clear hsame
        have hpq : (p = L) ∨ (p ≠ L ∧ q = L) := by
          rcases Decidable.em (p = (L : Int)) with h | h
          · exact .inl h
          · exact .inr ⟨h, hhit.resolve_left h⟩
        clear hhit
        rcases hpq with h1 | ⟨h1, h2⟩
        · have t1 : (p != (L : Int)) = false := by simp [h1]
          clear h1
          go_wp2_with (at_delete; refine wp_delete_rs _ rfl _ _ rfl _ _ _ _ _ _ rfl ((x : Int), (y : Int)) rfl HWE.out HIN2.out HR5.out ?_; intro w6 cnt6 sz6 hrs6 hsz6 hcnt6 hg6 hf6; have k0 := (HCP.out.grown hg6 (by simp; omega)).cell 0; have k1 := (HCP.out.grown hg6 (by simp; omega)).cell 1)
          rw [HS.out] at hrs6
          have hk6 := HK5.out.grown hg6 (by simp; omega)
          have B6 : BelowAll B g w w6 := fun base h1 h2 h3 => (B5 base h1 h2 h3).grown hg6 (by simp; omega) (fun k hk => by cases hk; exact h1)
          have hl6 := hg6.size
          rw [World.size_alloc] at hl6
          have hb6 := hrs6.ms.lt
          have HR6 := Lib.hid hrs6
          have HK6 := Lib.hid hk6
          clear hrs6 hk6 hg6 hf6 k0 k1
          obtain ⟨wo, rfl⟩ : ∃ wo : World, wo = wr := ⟨_, rfl⟩
          go_loopw [42] (fun i wr => ∃ j : Nat, j ≤ 2 ∧ i = .int .i64 j ∧ RS wr B w.heap.size (without esc ((x : Int), (y : Int))) (fun f => left f && !(f == ((x : Int), (y : Int)))) cnt6 sz6 ∧ Blk wr g 3 (intCells (ends dsc x y ((L : Int) + 1) j)).toArray ∧ BelowAll B g w wr ∧ w.heap.size < wr.heap.size) (fun i _ => 2 - (intOf i).toNat)
          case atStart => exact ⟨0, by omega, rfl, HR6.out, HK6.out, B6, by omega⟩
          case round =>
            obtain ⟨j, hj, rfl, hrs7, hk7, B7, hl7⟩ := hrel
            have HR7 := Lib.hid hrs7
            have HK7 := Lib.hid hk7
            have hf7 := hk7.frozen x
            have hf8 := hk7.frozen y
            have hen7 := ends_len dsc x y ((L : Int) + 1) j
            clear hrs7 hk7
            have i0 : ∀ w : World, (Instr.index 121 (.agg #[.int .i64 (x : Int), .int .i64 (y : Int)]) (.int .i64 0)).run Try.prog w = .ok (.int .i64 (x : Int)) w := fun _ => by kernel_rfl
            have i1 : ∀ w : World, (Instr.index 121 (.agg #[.int .i64 (x : Int), .int .i64 (y : Int)]) (.int .i64 1)).run Try.prog w = .ok (.int .i64 (y : Int)) w := fun _ => by kernel_rfl
            have hL0 : (0 : Int) ≤ (L : Int) := Int.natCast_nonneg _
            have hL1 : (L : Int) ≤ 1048576 := by omega
            by_cases hj0 : j = 0
            · subst hj0
              have cx := blk_get (u := x) HK7.out HP.out
              by_cases hm : p = -1
              · have HE1 : Hid (dsc.set x ((L : Int) + 1) = ends dsc x y ((L : Int) + 1) 1) := Lib.hid (by simp only [ends, setIf]; rw [if_pos (by rw [HP.out, hm])])
                have tm : (p == -1) = true := by simp [hm]
                clear hm
                go_wp2
                exact ⟨⟨1, by omega, by go_num, HR7.out.set _ _ _ hne (by omega), by rw [← HE1.out]; exact blk_set1 HK7.out _ _, fun base h1 h2 h3 => (B7 base h1 h2 h3).setCell h2 _, by simp; omega⟩, by simp [intOf]⟩
              · have HE1 : Hid (dsc = ends dsc x y ((L : Int) + 1) 1) := Lib.hid (by simp only [ends, setIf]; rw [if_neg (by rw [HP.out]; simpa using hm)])
                have tm : (p == -1) = false := by simp [hm]
                clear hm
                go_wp2
                exact ⟨⟨1, by omega, by go_num, HR7.out, by rw [← HE1.out]; exact HK7.out, B7, hl7⟩, by simp [intOf]⟩
            by_cases hj1 : j = 1
            · subst hj1
              obtain ⟨q1, hq1⟩ : ∃ q1, (ends dsc x y ((L : Int) + 1) 1)[y]? = some q1 := ⟨_, List.getElem?_eq_getElem (by omega)⟩
              have cx := blk_get (u := y) HK7.out hq1
              have HQ1 := Lib.hid hq1
              clear hq1
              by_cases hm : q1 = -1
              · have HE1 : Hid ((ends dsc x y ((L : Int) + 1) 1).set y ((L : Int) + 1) = ends dsc x y ((L : Int) + 1) 2) := Lib.hid (by
                  have h := HQ1.out
                  simp only [ends] at h ⊢
                  conv => rhs; rw [setIf]
                  rw [if_pos (by rw [h, hm])])
                have tm : (q1 == -1) = true := by simp [hm]
                clear hm
                go_wp2
                exact ⟨⟨2, by omega, by go_num, HR7.out.set _ _ _ hne (by omega), by rw [← HE1.out]; exact blk_set1 HK7.out _ _, fun base h1 h2 h3 => (B7 base h1 h2 h3).setCell h2 _, by simp; omega⟩, by simp [intOf]⟩
              · have HE1 : Hid (ends dsc x y ((L : Int) + 1) 1 = ends dsc x y ((L : Int) + 1) 2) := Lib.hid (by
                  have h := HQ1.out
                  simp only [ends] at h ⊢
                  conv => rhs; rw [setIf]
                  rw [if_neg (by rw [h]; simpa using hm)])
                have tm : (q1 == -1) = false := by simp [hm]
                clear hm
                go_wp2
                exact ⟨⟨2, by omega, by go_num, HR7.out, by rw [← HE1.out]; exact HK7.out, B7, hl7⟩, by simp [intOf]⟩
            · have hj2 : j = 2 := by omega
              subst hj2
              have HMH := Lib.hid (HMid.out.hit HLE.out HH.out hsz6 ⟨by simp only [Int.toNat_natCast]; omega, by simp only [Int.toNat_natCast]; omega⟩ hL0)
              go_wp2
              refine ⟨⟨_, _, _, cnt6, sz6, HR7.out, HMH.out, HK7.out, B7, hl7⟩, ?_⟩
              rw [HR7.out.left_eq, HL.out]
              omega
        · have t1 : (p != (L : Int)) = true := by simp [h1]
          have t2 : (q != (L : Int)) = false := by simp [h2]
          clear h1 h2
          go_wp2_with (at_delete; refine wp_delete_rs _ rfl _ _ rfl _ _ _ _ _ _ rfl ((x : Int), (y : Int)) rfl HWE.out HIN2.out HR5.out ?_; intro w6 cnt6 sz6 hrs6 hsz6 hcnt6 hg6 hf6; have k0 := (HCP.out.grown hg6 (by simp; omega)).cell 0; have k1 := (HCP.out.grown hg6 (by simp; omega)).cell 1)
          rw [HS.out] at hrs6
          have hk6 := HK5.out.grown hg6 (by simp; omega)
          have B6 : BelowAll B g w w6 := fun base h1 h2 h3 => (B5 base h1 h2 h3).grown hg6 (by simp; omega) (fun k hk => by cases hk; exact h1)
          have hl6 := hg6.size
          rw [World.size_alloc] at hl6
          have hb6 := hrs6.ms.lt
          have HR6 := Lib.hid hrs6
          have HK6 := Lib.hid hk6
          clear hrs6 hk6 hg6 hf6 k0 k1
          obtain ⟨wo, rfl⟩ : ∃ wo : World, wo = wr := ⟨_, rfl⟩
          go_loopw [42] (fun i wr => ∃ j : Nat, j ≤ 2 ∧ i = .int .i64 j ∧ RS wr B w.heap.size (without esc ((x : Int), (y : Int))) (fun f => left f && !(f == ((x : Int), (y : Int)))) cnt6 sz6 ∧ Blk wr g 3 (intCells (ends dsc x y ((L : Int) + 1) j)).toArray ∧ BelowAll B g w wr ∧ w.heap.size < wr.heap.size) (fun i _ => 2 - (intOf i).toNat)
          case atStart => exact ⟨0, by omega, rfl, HR6.out, HK6.out, B6, by omega⟩
          case round =>
            obtain ⟨j, hj, rfl, hrs7, hk7, B7, hl7⟩ := hrel
            have HR7 := Lib.hid hrs7
            have HK7 := Lib.hid hk7
            have hf7 := hk7.frozen x
            have hf8 := hk7.frozen y
            have hen7 := ends_len dsc x y ((L : Int) + 1) j
            clear hrs7 hk7
            have i0 : ∀ w : World, (Instr.index 121 (.agg #[.int .i64 (x : Int), .int .i64 (y : Int)]) (.int .i64 0)).run Try.prog w = .ok (.int .i64 (x : Int)) w := fun _ => by kernel_rfl
            have i1 : ∀ w : World, (Instr.index 121 (.agg #[.int .i64 (x : Int), .int .i64 (y : Int)]) (.int .i64 1)).run Try.prog w = .ok (.int .i64 (y : Int)) w := fun _ => by kernel_rfl
            have hL0 : (0 : Int) ≤ (L : Int) := Int.natCast_nonneg _
            have hL1 : (L : Int) ≤ 1048576 := by omega
            by_cases hj0 : j = 0
            · subst hj0
              have cx := blk_get (u := x) HK7.out HP.out
              by_cases hm : p = -1
              · have HE1 : Hid (dsc.set x ((L : Int) + 1) = ends dsc x y ((L : Int) + 1) 1) := Lib.hid (by simp only [ends, setIf]; rw [if_pos (by rw [HP.out, hm])])
                have tm : (p == -1) = true := by simp [hm]
                clear hm
                go_wp2
                exact ⟨⟨1, by omega, by go_num, HR7.out.set _ _ _ hne (by omega), by rw [← HE1.out]; exact blk_set1 HK7.out _ _, fun base h1 h2 h3 => (B7 base h1 h2 h3).setCell h2 _, by simp; omega⟩, by simp [intOf]⟩
              · have HE1 : Hid (dsc = ends dsc x y ((L : Int) + 1) 1) := Lib.hid (by simp only [ends, setIf]; rw [if_neg (by rw [HP.out]; simpa using hm)])
                have tm : (p == -1) = false := by simp [hm]
                clear hm
                go_wp2
                exact ⟨⟨1, by omega, by go_num, HR7.out, by rw [← HE1.out]; exact HK7.out, B7, hl7⟩, by simp [intOf]⟩
            by_cases hj1 : j = 1
            · subst hj1
              obtain ⟨q1, hq1⟩ : ∃ q1, (ends dsc x y ((L : Int) + 1) 1)[y]? = some q1 := ⟨_, List.getElem?_eq_getElem (by omega)⟩
              have cx := blk_get (u := y) HK7.out hq1
              have HQ1 := Lib.hid hq1
              clear hq1
              by_cases hm : q1 = -1
              · have HE1 : Hid ((ends dsc x y ((L : Int) + 1) 1).set y ((L : Int) + 1) = ends dsc x y ((L : Int) + 1) 2) := Lib.hid (by
                  have h := HQ1.out
                  simp only [ends] at h ⊢
                  conv => rhs; rw [setIf]
                  rw [if_pos (by rw [h, hm])])
                have tm : (q1 == -1) = true := by simp [hm]
                clear hm
                go_wp2
                exact ⟨⟨2, by omega, by go_num, HR7.out.set _ _ _ hne (by omega), by rw [← HE1.out]; exact blk_set1 HK7.out _ _, fun base h1 h2 h3 => (B7 base h1 h2 h3).setCell h2 _, by simp; omega⟩, by simp [intOf]⟩
              · have HE1 : Hid (ends dsc x y ((L : Int) + 1) 1 = ends dsc x y ((L : Int) + 1) 2) := Lib.hid (by
                  have h := HQ1.out
                  simp only [ends] at h ⊢
                  conv => rhs; rw [setIf]
                  rw [if_neg (by rw [h]; simpa using hm)])
                have tm : (q1 == -1) = false := by simp [hm]
                clear hm
                go_wp2
                exact ⟨⟨2, by omega, by go_num, HR7.out, by rw [← HE1.out]; exact HK7.out, B7, hl7⟩, by simp [intOf]⟩
            · have hj2 : j = 2 := by omega
              subst hj2
              have HMH := Lib.hid (HMid.out.hit HLE.out HH.out hsz6 ⟨by simp only [Int.toNat_natCast]; omega, by simp only [Int.toNat_natCast]; omega⟩ hL0)
              go_wp2
              refine ⟨⟨_, _, _, cnt6, sz6, HR7.out, HMH.out, HK7.out, B7, hl7⟩, ?_⟩
              rw [HR7.out.left_eq, HL.out]
              omega
      · have HH : Hid (¬ Hit ds L ((x : Int), (y : Int))) := Lib.hid (by
          unfold Hit
          simp only [Int.toNat_natCast]
          rw [← HMid.out.same (by omega), ← HMid.out.same (by omega), HP.out, HQ.out]
          simp only [Option.some.injEq]
          exact hhit)
        have t1 : (p != (L : Int)) = true := by simp only [bne_iff_ne]; exact fun h => hhit (.inl h)
        have t2 : (q != (L : Int)) = true := by simp only [bne_iff_ne]; exact fun h => hhit (.inr h)
        clear hhit
        go_wp2
        refine ⟨⟨_, esc, dsc, cnt4, sz', HR5.out, HMid.out.skip HH.out, HK5.out, B5, by simp; omega⟩, ?_⟩
        rw [HR5.out.left_eq, HL.out]
        exact hlt4
end Go.Proofs.Ytkmbdclhjdbhpab
