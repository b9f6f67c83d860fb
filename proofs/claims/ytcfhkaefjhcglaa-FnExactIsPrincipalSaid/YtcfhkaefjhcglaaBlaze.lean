/- The program's fire: light, burns, catches. -/
import Derived.Test.YtcfhkaefjhcglaaFireI
import Derived.Test.YtcfhkaefjhcglaaBG
import Derived.Test.YtcfhkaefjhcglaaBB
import Derived.Test.YtcfhkaefjhcglaaShCmp
namespace Go.Proofs.Ytcfhkaefjhcglaa
open Go.RowKit

theorem own_moves {w w' : World} {base lo hi n : Nat} {t : TypeId} {v : Value} {xs : List Value} (h : w.ownsRow base t 1 v n xs) (m : Moves lo hi w w') (h1 : hi ≤ base) : w'.ownsRow base t 1 v n xs := by
  refine ⟨h.1, ?_⟩
  rcases h.2 with g | ⟨g, cap, cur, hv, hb, hh, rest⟩
  · exact .inl g
  · refine .inr ⟨g, cap, cur, hv, hb, ?_, rest⟩
    rw [m.block g (Array.getElem?_eq_some_iff.1 hh).1 (.inr (by omega))]
    exact hh
/-- the fire of the program: its box at pf, its heat at gh, its order behind base -/
structure Blaze (w : World) (B base pf gh ch pb M : Nat) (ord : List Int) (h : Nat → Int) : Prop where
  box : ∃ (O : Option Addr) (co : Nat), Blk w pf 135 #[.pointer (some ⟨pb, 0, none⟩), .slice O ord.length co, .slice (some ⟨gh, 0, none⟩) M ch] ∧ w.ownsRow base 3 1 (.slice O ord.length co) ord.length (intCells ord)
  heat : Chips w gh (chipsOf M h)
  lo1 : B ≤ gh
  lo2 : B ≤ pf
  lt1 : gh < base
  lt2 : pf < base
  ne : gh ≠ pf
  size : base ≤ w.heap.size
theorem Blaze.below {w w' : World} {B base pf gh ch pb M : Nat} {ord : List Int} {h : Nat → Int} (z : Blaze w B base pf gh ch pb M ord h) (hb : Below w.heap.size w w') : Blaze w' B base pf gh ch pb M ord h := by
  obtain ⟨O, co, h1, h2⟩ := z.box
  refine ⟨⟨O, co, h1.below hb h1.lt, ?_⟩, z.heat.below hb, z.lo1, z.lo2, z.lt1, z.lt2, z.ne, Nat.le_trans z.size hb.size⟩
  refine ⟨h2.1, ?_⟩
  rcases h2.2 with g | ⟨g, cap, cur, hv, hbb, hh, rest⟩
  · exact .inl g
  · refine .inr ⟨g, cap, cur, hv, hbb, ?_, rest⟩
    rw [hb.block g (Array.getElem?_eq_some_iff.1 hh).1]
    exact hh
theorem Blaze.drew {w : World} {B base pf gh ch pb M : Nat} {ord : List Int} {h : Nat → Int} (z : Blaze w B base pf gh ch pb M ord h) : Blaze w.drew B base pf gh ch pb M ord h := z.below (Below.refl _ _).drew
theorem Blaze.heat_set {w : World} {B base pf gh ch pb M : Nat} {ord : List Int} {h h2 : Nat → Int} (z : Blaze w B base pf gh ch pb M ord h) {a : Nat} {x : Int} (hc : Chips (w.setCell ⟨gh, a, none⟩ (.int .i64 x)) gh (chipsOf M h2)) : Blaze (w.setCell ⟨gh, a, none⟩ (.int .i64 x)) B base pf gh ch pb M ord h2 := by
  obtain ⟨O, co, h1, h3⟩ := z.box
  have hm : Moves gh (gh + 1) w (w.setCell ⟨gh, a, none⟩ (.int .i64 x)) := (Moves.refl w gh (gh + 1)).set_ a _
  exact ⟨⟨O, co, h1.moves hm (by have := z.ne; omega), own_moves h3 hm (by have := z.lt1; omega)⟩, hc, z.lo1, z.lo2, z.lt1, z.lt2, z.ne, by simpa [World.setCell] using z.size⟩
theorem heatC_eq {M : Nat} {f g : Nat → Int} (h : ∀ u, f u = g u) : chipsOf M f = chipsOf M g := chipsOf_eq fun u _ => h u
theorem Blaze.congr {w : World} {B base pf gh ch pb M : Nat} {ord : List Int} {h h2 : Nat → Int} (z : Blaze w B base pf gh ch pb M ord h) (e : ∀ u, h u = h2 u) : Blaze w B base pf gh ch pb M ord h2 := by
  rw [show h = h2 from funext e] at z
  exact z
theorem warm_add1 (h : Nat → Int) (v : Int) {es : List (Int × Int)} {k : Nat} {a b : Nat} (he : es[k]? = some ((a : Int), (b : Int))) (e : v = (a : Int)) (u : Nat) : addAt (fun u => h u + warms v u (es.take k)) b 1 u = h u + warms v u (es.take (k + 1)) := by
  rw [warms_snoc v u he, warm, if_pos e, addAt]
  unfold ind
  by_cases g : u = b
  · subst g
    rw [if_pos rfl, if_pos rfl]; omega
  · rw [if_neg g, if_neg (by omega)]; omega
theorem warm_add2 (h : Nat → Int) (v : Int) {es : List (Int × Int)} {k : Nat} {a b : Nat} (he : es[k]? = some ((a : Int), (b : Int))) (e1 : v ≠ (a : Int)) (e : v = (b : Int)) (u : Nat) : addAt (fun u => h u + warms v u (es.take k)) a 1 u = h u + warms v u (es.take (k + 1)) := by
  rw [warms_snoc v u he, warm, if_neg e1, if_pos e, addAt]
  unfold ind
  by_cases g : u = a
  · subst g
    rw [if_pos rfl, if_pos rfl]; omega
  · rw [if_neg g, if_neg (by omega)]; omega
theorem warm_add0 (h : Nat → Int) (v : Int) {es : List (Int × Int)} {k : Nat} {a b : Nat} (he : es[k]? = some ((a : Int), (b : Int))) (e1 : v ≠ (a : Int)) (e2 : v ≠ (b : Int)) (u : Nat) : h u + warms v u (es.take k) = h u + warms v u (es.take (k + 1)) := by
  rw [warms_snoc v u he, warm, if_neg e1, if_neg e2]; omega

set_option maxRecDepth 100000 in
set_option maxHeartbeats 4000000 in
theorem light_any (B base pf gh ch pb M cA : Nat) (A : Option Addr) (es : List (Int × Int)) (ord : List Int) (h : Nat → Int) (v : Nat) (G : Value) (w : World) (hn : es.length ≤ 12) (ho : ord.length ≤ 6) (hes : ∀ e ∈ es, 0 ≤ e.1 ∧ e.1 < e.2 ∧ e.2 < (M : Int))
    (hpb : pb < B) (hB : Blk w pb 69 #[.slice A es.length cA, G]) (hE : EdgeS w B A es) (hZ : Blaze w B base pf gh ch pb M ord h) :
    Calls Try.prog 141 #[.pointer (some ⟨pf, 0, none⟩), .int .i64 (v : Int)] w fun e w' => e = .returned (.tuple #[]) ∧ Blaze w' B base pf gh ch pb M (ord ++ [(v : Int)]) (fun u => h u + warms (v : Int) u es) ∧ Below B w w' := by
  obtain ⟨i0, hi, hz0, hz1, hz2⟩ := info_parts intInfo
  obtain ⟨O, co, hbx, hown⟩ := hZ.box
  have HB := Lib.hid hB
  have HE := Lib.hid hE
  have HES := Lib.hid hes
  have HZ := Lib.hid hZ
  have HO := Lib.hid hown
  have HX := Lib.hid hbx
  have hsz := hZ.size
  have hl1 := hZ.lo1
  have hl2 := hZ.lo2
  have hl3 := hZ.lt1
  have hl4 := hZ.lt2
  have hl5 := hZ.ne
  have q0 : w.cell? ⟨pf, 1, none⟩ = some (.slice O ord.length co) := by rw [hbx.cell]; rfl
  have hfz := hbx.frozen 1
  clear hB hE hes hZ hown hbx
  go_enter Try.func141, Try.ntmps141
  go_wp2_with (at_builtin; refine wpList_append_own _ rfl _ _ 27 rfl base 3 i0 (.int .i64 0) 1 8 Try.underlying27 hi hz0 hz1 hz2 rfl (by decide) _ _ _ rfl (own_moves HO.out ((belowMv ((Below.refl _ _).alloc (Nat.le_refl _) _) 0)) (Nat.zero_le _)) ⟨w.heap.size, 0, none⟩ 1 1 [.int .i64 (v : Int)] rfl rfl ?c1 ?c2 ?c3 ?c4 ?c5 ?_)
  case c1 => exact one_cell _ _ (by simp) _ _
  case c2 => simp [Value.oneCell']
  case c3 => unfold maxLen; omega
  case c4 => omega
  case c5 => simp; omega
  intro v' w1 hown' hgrow _
  have hown2 : w1.ownsRow base 3 1 v' (ord.length + 1) (intCells (ord ++ [(v : Int)])) := by rw [← cells_snoc]; exact hown'
  obtain ⟨A3, c3, hv3, hlen⟩ := own_slice hown2
  obtain ⟨n1, hn1⟩ : ∃ n1, n1 = (ord ++ [(v : Int)]).length := ⟨_, rfl⟩
  rw [← hn1] at hv3 hlen
  subst hv3
  have hb0 : Below B w (w.alloc (.cells #[.int .i64 (v : Int)] 3)) := (Below.refl _ _).alloc (by omega) _
  have hb1 : Below B w w1 := hb0.grown hgrow (by simp; omega) (fun q hq => by have := (HO.out.lt q hq).1; omega)
  have hs1 := hgrow.size
  rw [World.size_alloc] at hs1
  have hx1 := ((HX.out.alloc (.cells #[.int .i64 (v : Int)] 3)).grown hgrow (by
    intro hq
    have := (HO.out.lt pf hq).1
    omega))
  have hc1 : Chips w1 gh (chipsOf M h) := by
    have hq : w1.heap[gh]? = w.heap[gh]? := by
      rw [hgrow.block gh (by rw [World.size_alloc]; have := HZ.out.heat.lt; omega) (by
        intro hq
        have := (HO.out.lt gh hq.symm).1
        omega)]
      exact Below.heap_alloc w _ gh HZ.out.heat.lt
    have hz := HZ.out.heat
    exact ⟨by have := hz.lt; omega, fun i z hi => ⟨(World.cell?_of_block (a := ⟨gh, i, none⟩) hq).trans (hz.cell i z hi).1, (World.frozen?_of_block (a := ⟨gh, i, none⟩) hq).trans (hz.cell i z hi).2⟩⟩
  have q1 : w1.cell? ⟨pf, 1, none⟩ = some (.slice O ord.length co) := by rw [hx1.cell]; rfl
  have hf1 := hx1.frozen 1
  have hx2 := hx1.set_ 1 (.slice A3 n1 c3)
  have hmv : Moves pf (pf + 1) w1 (w1.setCell ⟨pf, 1, none⟩ (.slice A3 n1 c3)) := (Moves.refl w1 pf (pf + 1)).set_ 1 _
  have hz2 : Blaze (w1.setCell ⟨pf, 1, none⟩ (.slice A3 n1 c3)) B base pf gh ch pb M (ord ++ [(v : Int)]) h :=
    ⟨⟨A3, c3, by rw [← hn1]; exact hx2, by have := own_moves hown2 hmv (by omega); rw [hlen] at this; rw [← hn1]; exact this⟩, hc1.moves hmv (by omega), hl1, hl2, hl3, hl4, hl5, by simp [World.setCell]; omega⟩
  have hb2 : Below B w (w1.setCell ⟨pf, 1, none⟩ (.slice A3 n1 c3)) := hb1.setCell (p := ⟨pf, 1, none⟩) hl2 _
  obtain ⟨W1, hW1⟩ : ∃ X : World, X = w1.setCell ⟨pf, 1, none⟩ (.slice A3 n1 c3) := ⟨_, rfl⟩
  rw [← hW1] at hz2 hb2
  have HZ2 := Lib.hid hz2
  have HB2 := Lib.hid hb2
  have HB1 := Lib.hid (HB.out.below hb2 hpb)
  have HW1 := Lib.hid hW1
  have r0 : (w1.setCell ⟨pf, 1, none⟩ (.slice A3 n1 c3)).cell? ⟨pf, 0, none⟩ = some (.pointer (some ⟨pb, 0, none⟩)) := by
    rw [← HW1.out]
    obtain ⟨_, _, g, _⟩ := HZ2.out.box
    rw [g.cell]; rfl
  have r1 : (w1.setCell ⟨pf, 1, none⟩ (.slice A3 n1 c3)).cell? ⟨pb, 0, none⟩ = some (.slice A es.length cA) := by rw [← HW1.out, HB1.out.cell]; rfl
  clear hown' hown2 hgrow hx1 hx2 hc1 hmv hz2 hW1 hb0 hb1 hs1 q0 hlen hn1
  go_wp2
  go_loopw [24] (fun i wr => ∃ k : Nat, k ≤ es.length ∧ i = .int .i64 k ∧ Blaze wr B base pf gh ch pb M (ord ++ [(v : Int)]) (fun u => h u + warms (v : Int) u (es.take k)) ∧ Below B w wr) (fun i _ => es.length - (intOf i).toNat)
  case atStart => exact ⟨0, Nat.zero_le _, rfl, by rw [← HW1.out]; exact HZ2.out.congr (fun u => by simp [warms]), by rw [← HW1.out]; exact HB2.out⟩
  case round =>
    obtain ⟨k, hk, rfl, hzr, hbr⟩ := hrel
    have HZR := Lib.hid hzr
    have HBR := Lib.hid hbr
    clear hzr hbr r0 r1 q1 hf1
    by_cases hlt : k < es.length
    · obtain ⟨b1, o1, e, rfl, hb1, he, hc0, hc1⟩ := (HE.out.below HBR.out).at_ hlt
      obtain ⟨h1, h2, h3⟩ := HES.out e (List.mem_of_getElem? he)
      obtain ⟨x, y⟩ := e
      simp only at h1 h2 h3 hc0 hc1
      obtain ⟨a, rfl⟩ : ∃ a : Nat, x = (a : Int) := ⟨x.toNat, by omega⟩
      obtain ⟨b, rfl⟩ : ∃ b : Nat, y = (b : Int) := ⟨y.toNat, by omega⟩
      have hi0 : (0 : Int) ≤ (k : Int) := Int.natCast_nonneg _
      have hi1 : (k : Int) < (es.length : Int) := by omega
      have ha : a < M := by omega
      have hb : b < M := by omega
      have ha0 : (0 : Int) ≤ (a : Int) := Int.natCast_nonneg _
      have hb0 : (0 : Int) ≤ (b : Int) := Int.natCast_nonneg _
      have ha1 : (a : Int) < (M : Int) := by omega
      have hb1 : (b : Int) < (M : Int) := by omega
      have hsw : B ≤ wr.heap.size := by have := HZR.out.size; have := HZR.out.lt1; omega
      have hbA : Below wr.heap.size wr (wr.alloc (Obj.cells #[.int .i64 (a : Int), .int .i64 (b : Int)] 74)) := (Below.refl _ _).alloc (Nat.le_refl _) _
      have hZA := HZR.out.below hbA
      have hBA : Below B w (wr.alloc (Obj.cells #[.int .i64 (a : Int), .int .i64 (b : Int)] 74)) := HBR.out.alloc hsw _
      have hEA := Blk.new wr 74 #[.int .i64 (a : Int), .int .i64 (b : Int)]
      obtain ⟨Or, cr, hxr, _⟩ := hZA.box
      have p0 : (wr.alloc (Obj.cells #[.int .i64 (a : Int), .int .i64 (b : Int)] 74)).cell? ⟨pf, 2, none⟩ = some (.slice (some ⟨gh, 0, none⟩) M ch) := by rw [hxr.cell]; rfl
      have HE0 := Lib.hid he
      have HZA := Lib.hid hZA
      have HBA := Lib.hid hBA
      clear he hxr hZA hBA hbA hEA h1 h2 h3
      by_cases hv1 : (v : Int) = (a : Int)
      · have t1 : ((v : Int) == (a : Int)) = true := by simp [hv1]
        obtain ⟨d0, f0⟩ := HZA.out.heat.cell b _ (chipsOf_at _ hb)
        have hc := HZA.out.heat.set_ (a := b) (by rw [chipsOf_len]; exact hb) (wrap64 (wrap64 (h b + warms (v : Int) b (es.take k)) + 1))
        rw [chipsOf_set M _ b _ 1 (wrap64_addL _ _)] at hc
        have HZN := Lib.hid (((HZA.out.heat_set hc).congr (warm_add1 h (v : Int) HE0.out hv1)))
        have HBN := Lib.hid (HBA.out.setCell (p := ⟨gh, b, none⟩) hl1 (.int .i64 (wrap64 (wrap64 (h b + warms (v : Int) b (es.take k)) + 1))))
        clear hc hv1
        go_wp2_with fail
        go_region
        go_wp2
        exact ⟨⟨k + 1, by omega, by go_num, HZN.out.drew, HBN.out.drew⟩, by simp [intOf]; omega⟩
      · have t1 : ((v : Int) == (a : Int)) = false := by simp; omega
        by_cases hv2 : (v : Int) = (b : Int)
        · have t2 : ((v : Int) == (b : Int)) = true := by simp [hv2]
          obtain ⟨d0, f0⟩ := HZA.out.heat.cell a _ (chipsOf_at _ ha)
          have hc := HZA.out.heat.set_ (a := a) (by rw [chipsOf_len]; exact ha) (wrap64 (wrap64 (h a + warms (v : Int) a (es.take k)) + 1))
          rw [chipsOf_set M _ a _ 1 (wrap64_addL _ _)] at hc
          have HZN := Lib.hid (((HZA.out.heat_set hc).congr (warm_add2 h (v : Int) HE0.out hv1 hv2)))
          have HBN := Lib.hid (HBA.out.setCell (p := ⟨gh, a, none⟩) hl1 (.int .i64 (wrap64 (wrap64 (h a + warms (v : Int) a (es.take k)) + 1))))
          clear hc hv1 hv2
          go_wp2_with fail
          go_region
          go_wp2
          exact ⟨⟨k + 1, by omega, by go_num, HZN.out.drew, HBN.out.drew⟩, by simp [intOf]; omega⟩
        · have t2 : ((v : Int) == (b : Int)) = false := by simp; omega
          have HZN := Lib.hid (HZA.out.congr (warm_add0 h (v : Int) HE0.out hv1 hv2))
          clear hv1 hv2
          go_wp2
          exact ⟨⟨k + 1, by omega, by go_num, HZN.out, HBA.out⟩, by simp [intOf]; omega⟩
    · have hz := HZR.out
      rw [List.take_of_length_le (by omega)] at hz
      have HZN := Lib.hid hz
      clear hz
      go_wp2
      go_end0
      exact ⟨rfl, HZN.out, HBR.out⟩
/-- whether v burns -/
theorem inL_contains (l : List Int) (v : Int) : l.contains v = inL l v := by simp [inL]
set_option maxHeartbeats 1000000 in
theorem burns_any (B base pf gh ch pb M : Nat) (ord : List Int) (h : Nat → Int) (v : Int) (w : World) (ho : ord.length ≤ 6) (h0 : 0 < ord.length) (hZ : Blaze w B base pf gh ch pb M ord h) :
    Calls Try.prog 143 #[.pointer (some ⟨pf, 0, none⟩), .int .i64 v] w fun e w' => e = .returned (.bool (inL ord v)) ∧ w' = w := by
  obtain ⟨O, co, hbx, hown⟩ := hZ.box
  have q1 : w.cell? ⟨pf, 1, none⟩ = some (.slice O ord.length co) := by rw [hbx.cell]; rfl
  obtain ⟨bO, oO, rfl, _, hc⟩ := (OwnI.of_own hown).ints h0
  have HC := Lib.hid (show Calls Try.prog 124 #[.slice (some ⟨bO, oO, none⟩) ord.length co, .int .i64 v] w fun e w' => e = .returned (.bool (inL ord v)) ∧ w' = w by
    have := Try.slices_Contains_int bO oO ord.length co ord v w (Nat.le_refl _) (by omega) (fun j hj => by rw [hc j ord[j] (List.getElem?_eq_getElem hj)]; simp [List.getD, List.getElem?_eq_getElem hj])
    rw [List.take_length, inL_contains] at this
    exact this)
  clear hZ hbx hown hc
  go_enter Try.func143, Try.ntmps143
  go_wp2_with fail
  refine HC.out.mono ?_
  rintro e w' ⟨rfl, rfl⟩
  go_wp2
  go_ret
  exact ⟨rfl, rfl⟩
/-- what the fire asks of a vertex -/
def catchH (d : List Int) (h : Nat → Int) (ord : List Int) (v : Nat) : Bool := decide (d.getD v 0 < h v) && !inL ord (v : Int)
set_option maxHeartbeats 1000000 in
theorem catches_any (B base pf gh ch pb M g cg : Nat) (E : Value) (d ord : List Int) (h : Nat → Int) (v : Nat) (w : World) (hv : v < M) (hd : d.length = M) (ho : ord.length ≤ 6) (h0 : 0 < ord.length) (hw : ∀ u, u < M → wrap64 (h u) = h u)
    (hB : Blk w pb 69 #[E, .slice (some ⟨g, 0, none⟩) M cg]) (hC : Chips w g d) (hZ : Blaze w B base pf gh ch pb M ord h) :
    Calls Try.prog 142 #[.pointer (some ⟨pf, 0, none⟩), .int .i64 (v : Int)] w fun e w' => e = .returned (.bool (catchH d h ord v)) ∧ Below w.heap.size w w' := by
  obtain ⟨O, co, hbx, hown⟩ := hZ.box
  have q0 : w.cell? ⟨pf, 0, none⟩ = some (.pointer (some ⟨pb, 0, none⟩)) := by rw [hbx.cell]; rfl
  have q2 : w.cell? ⟨pf, 2, none⟩ = some (.slice (some ⟨gh, 0, none⟩) M ch) := by rw [hbx.cell]; rfl
  have q3 : w.cell? ⟨pb, 1, none⟩ = some (.slice (some ⟨g, 0, none⟩) M cg) := by rw [hB.cell]; rfl
  have q4 : w.cell? ⟨gh, v, none⟩ = some (.int .i64 (h v)) := by rw [(hZ.heat.cell v _ (chipsOf_at _ hv)).1, hw v hv]
  have hvd : v < d.length := by omega
  obtain ⟨x, hx⟩ : ∃ x, x = d.getD v 0 := ⟨_, rfl⟩
  have q5 : w.cell? ⟨g, v, none⟩ = some (.int .i64 x) := by rw [(hC.cell v _ (List.getElem?_eq_getElem hvd)).1, hx]; simp [List.getD, List.getElem?_eq_getElem hvd]
  have hv0 : (0 : Int) ≤ (v : Int) := Int.natCast_nonneg _
  have hv1 : (v : Int) < (M : Int) := by omega
  have HB := fun w' hb => Lib.hid (burns_any B base pf gh ch pb M ord h (v : Int) w' ho h0 (hZ.below hb))
  rw [catchH, ← hx]
  obtain ⟨y, hy⟩ : ∃ y, y = h v := ⟨_, rfl⟩
  rw [← hy] at q4 ⊢
  obtain ⟨bb, hbb⟩ : ∃ b, b = inL ord (v : Int) := ⟨_, rfl⟩
  rw [← hbb] at HB ⊢
  clear hx hy hbb hbx hown hZ hC hB hw hvd
  by_cases hl : x < y
  · have t1 : decide (x < y) = true := decide_eq_true hl
    go_enter Try.func142, Try.ntmps142
    go_wp2_with fail
    go_quiet (first | (go_at_call 143; exact Calls.quiet_of_same (HB _ (below_drewN (Below.refl _ _) _)).out))
    go_wp2
    go_ret
    exact ⟨ret_boolE (by simp [t1]), below_drewN (Below.refl _ _) _⟩
  · have t1 : decide (x < y) = false := decide_eq_false hl
    go_enter Try.func142, Try.ntmps142
    go_wp2_with fail
    go_quiet (fail)
    go_wp2
    go_ret
    exact ⟨ret_boolE (by simp [t1]), below_drewN (Below.refl _ _) _⟩
end Go.Proofs.Ytcfhkaefjhcglaa
