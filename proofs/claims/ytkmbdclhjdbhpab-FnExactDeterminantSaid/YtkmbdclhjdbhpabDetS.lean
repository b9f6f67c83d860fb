/- The specification's l03Det: expansion along the first row. -/
import Derived.Test.YtkmbdclhjdbhpabDetD
import Derived.Test.YtkmbdclhjdbhpabCell1
import Derived.Deep.CutRange
import Derived.Deep.AppendLies
import Derived.Deep.RegionLaw
namespace Go.Proofs.Ytkmbdclhjdbhpab
open Go.RowKit

theorem own_emptyD (w : World) (base : Nat) (hb : base ≤ w.heap.size) (t : TypeId) : (w.alloc (.cells #[] t)).ownsRow base t 1 (.slice (some ⟨w.heap.size, 0, none⟩) 0 0) 0 [] :=
  ⟨rfl, .inr ⟨w.heap.size, 0, #[], rfl, hb, heap_alloc_new w _, Nat.le_refl _, Nat.zero_le _, rfl, rfl⟩⟩
section
variable {P : Program} {w : World}
/-- append to a row of the call's own, at a step of a region that draws -/
theorem step_append_ownD {ops : Array Oper} {o : Oper} {a : Act} {K : Act → World → Prop} {Q : Exit → Act → World → Prop} {E : Prop} (hgd : o.guard = none) (s x : Operand) (t : TypeId)
    (ho : o.op = .call { callee := .builtin .append, args := #[s, x], argTypes := #[t, t] })
    (base : Nat) (e : TypeId) (i : TypeInfo) (z : Value) (size bytes : Nat) (ht : P.underlying t = some (.slice e)) (hi : P.info? e = some i) (hz : i.zero = some z)
    (hsize : i.size = size) (hby : i.bytes = bytes) (hzs : z.cells.size = size) (hsz : 0 < size)
    (v : Value) (n : Nat) (xs : List Value) (hs : a.eval s = v) (hown : w.ownsRow base e size v n xs)
    (ad : Addr) (m c : Nat) (news : List Value) (hx : a.eval x = .slice (some ad) m c) (hl : news.length = m * size) (hnews : ∀ j u, news[j]? = some u → w.cell? (ad.add j) = some u) (h1 : ∀ u ∈ news, u.oneCell' = true)
    (h63 : n + m ≤ maxLen) (hbytes : (n + m) * bytes ≤ 140737488355328) (hbase : base ≤ w.heap.size)
    (h : ∀ v' w', w'.ownsRow base e size v' (n + m) (xs ++ news) → w.grownBy w' v.ownBlock → K (a.put o.dst v') w') :
    if Region.wanted o (yielded ops a.tmps) = true then Oper.wp P o a w K Q else E := by
  have hw : Region.wanted o (yielded ops a.tmps) = true := by simp [Region.wanted, hgd]
  rw [if_pos hw]
  exact wp_append_own w s x t ho base e i z size bytes ht hi hz hsize hby hzs hsz v n xs hs hown ad m c news hx hl hnews h1 h63 hbytes hbase fun v' w' h2 h3 _ => h v' w' h2 h3
end
theorem own_form {w : World} {base n : Nat} {v : Value} {l : List Int} (h : w.ownsRow base 3 1 v n (intCells l)) : ∃ (A : Option Addr) (c : Nat), v = .slice A l.length c ∧ l.length ≤ c ∧ IntS w w.heap.size A l := by
  have hl : l.length = n := by simpa [intCells] using h.1
  rcases h.2 with ⟨h1, h2⟩ | ⟨g, cap, cur, h1, _, _, hnc, _⟩
  · refine ⟨none, 0, by rw [h1, hl, h2], by omega, fun hn => absurd hn (by omega)⟩
  · have h3 := h
    rw [h1] at h3
    rw [hl]
    exact ⟨_, cap, h1, hnc, (OwnI.of_own h3).ints⟩
/-- the rows of a matrix with these numbers, as functions of the column -/
def pick (rs : List (List Int)) (R : List Nat) : List (Nat → Int) := R.map fun i => rowF (rs.getD i [])
def natI (l : List Nat) : List Int := l.map fun (n : Nat) => (n : Int)
theorem natI_len (l : List Nat) : (natI l).length = l.length := by simp [natI]
theorem natI_at {l : List Nat} {i n : Nat} (h : l[i]? = some n) : (natI l)[i]? = some (n : Int) := by simp [natI, h]
theorem natI_erase (C : List Nat) (j : Nat) : [] ++ intCells (natI (C.take j)) ++ intCells (natI (C.drop (j + 1))) = intCells (natI (C.eraseIdx j)) := by
  rw [List.nil_append, List.eraseIdx_eq_take_drop_succ]
  simp [intCells, natI]
/-- the sum of the first j columns' terms -/
def sumTo (r : Nat → Int) (R : List (Nat → Int)) (C : List Nat) (j : Nat) : Int := sumN j fun i => sgn i * r (C.getD i 0) * detF R (C.eraseIdx i)
theorem sumTo_step {r : Nat → Int} {R : List (Nat → Int)} {C : List Nat} {j cj : Nat} (h : C[j]? = some cj) : sumTo r R C (j + 1) = sumTo r R C j + sgn j * r cj * detF R (C.eraseIdx j) := by
  rw [sumTo, sumN, sumTo]
  simp [List.getD, h]
theorem wrap_mul2 (a e b : Int) : wrap64 (a + wrap64 e * b) = wrap64 (a + e * b) := by
  obtain ⟨k, hk⟩ : ∃ k : Int, wrap64 e = e + 18446744073709551616 * k := ⟨-((e + 9223372036854775808) / 18446744073709551616), by unfold wrap64; omega⟩
  rw [hk, Int.add_mul]
  have h : 18446744073709551616 * k * b = 18446744073709551616 * (k * b) := by rw [Int.mul_assoc]
  rw [h]
  generalize k * b = m
  generalize e * b = q
  unfold wrap64
  omega
theorem wrap_term (S e D : Int) : wrap64 (wrap64 S + wrap64 (wrap64 e * wrap64 D)) = wrap64 (S + e * D) := by rw [wrap_mul, wrap_mul2]
theorem natI_tail {w : World} {B bb ob r0 : Nat} {R : List Nat} (h : IntS w B (some ⟨bb, ob, none⟩) (natI (r0 :: R))) : IntS w B (some ⟨bb, ob + 1, none⟩) (natI R) := fun hn => by
  obtain ⟨b, o, e, hb, hc⟩ := h (by simp [natI])
  injection e with e
  injection e with e1 e2
  subst e1
  subst e2
  refine ⟨_, _, rfl, hb, fun i x hx => ?_⟩
  have := hc (i + 1) x (by simpa [natI] using hx)
  rw [Nat.add_assoc, Nat.add_comm 1 i]
  exact this
set_option maxRecDepth 100000 in
set_option maxHeartbeats 4000000 in
theorem l03Det_any (rs : List (List Int)) (hrr : ∀ r ∈ rs, r.length = rs.length ∧ ∀ x ∈ r, -500 ≤ x ∧ x ≤ 500) : ∀ (n : Nat) (R C : List Nat), R.length = n → n ≤ 6 → C.length ≤ 6 → (∀ i ∈ R, i < rs.length) → (∀ i ∈ C, i < rs.length) →
    ∀ (A B D : Option Addr) (ca cb cd : Nat) (w : World), R.length ≤ cb → C.length ≤ cd → IntSS w w.heap.size A rs → IntS w w.heap.size B (natI R) → IntS w w.heap.size D (natI C) →
    Calls Try.prog 72 #[.slice A rs.length ca, .slice B R.length cb, .slice D C.length cd] w fun e w' => e = .returned (.int .i64 (wrap64 (detF (pick rs R) C))) ∧ Below w.heap.size w w' := by
  obtain ⟨i0, hi, hz0, hz1, hz2⟩ := info_parts intInfo
  intro n
  induction n with
  | zero =>
    intro R C hR _ _ _ _ A B D ca cb cd w _ _ _ _ _
    obtain rfl : R = [] := List.length_eq_zero_iff.1 hR
    go_enter Try.func72, Try.ntmps72
    go_wp2
    go_ret
    exact ⟨ret_intE (by rw [pick, List.map_nil, detF, wrap64_of (by omega) (by omega)]), Below.refl _ _⟩
  | succ n ih =>
    intro R C hR hn6 hC6 hRi hCi A B D ca cb cd w hcb hcd hS hB hD
    match R, hR with
    | r0 :: R, hR =>
    have hRl : R.length = n := by simpa using hR
    have hr0 : r0 < rs.length := hRi r0 (by simp)
    obtain ⟨row, hrow⟩ : ∃ row, rs[r0]? = some row := ⟨_, List.getElem?_eq_getElem (by omega)⟩
    obtain ⟨hrowl, hrowe⟩ := hrr row (List.mem_of_getElem? hrow)
    have HS := Lib.hid hS
    have HB := Lib.hid hB
    have HD := Lib.hid hD
    have hrw1 : row.length ≤ rs.length := by omega
    have hrw2 : rs.length ≤ row.length := by omega
    clear hrowl
    have HC := Lib.hid hCi
    have HRI := Lib.hid hRi
    have IH := Lib.hid ih
    have HRE := Lib.hid hrowe
    have HRW := Lib.hid hrow
    have HRL := Lib.hid hRl
    have hlen : (r0 :: R).length = R.length + 1 := rfl
    have hl1 : (r0 :: R).length ≤ 6 := by rw [hlen]; omega
    have hl0 : 0 < (r0 :: R).length := by rw [hlen]; omega
    obtain ⟨rl, hrlen⟩ : ∃ rl, rl = (r0 :: R).length := ⟨_, rfl⟩
    rw [← hrlen] at hl1 hl0 hcb ⊢
    have HLEN := Lib.hid hrlen
    have t0 : ((rl : Int) == 0) = false := by simp; omega
    have hpk : pick rs (r0 :: R) = rowF row :: pick rs R := by simp [pick, List.getD, hrow]
    rw [hpk]
    clear hS hB hD hCi hRi ih hrowe hrow hRl hlen hrlen hR hrr hpk
    go_enter Try.func72, Try.ntmps72
    go_wp2
    go_loopw [7, 8, 18] (fun s sg i wr => ∃ j : Nat, j ≤ C.length ∧ i = .int .i64 j ∧ s = .int .i64 (wrap64 (sumTo (rowF row) (pick rs R) C j)) ∧ sg = .int .i64 (sgn j) ∧ Below w.heap.size w wr) (fun _ _ i _ => C.length - (intOf i).toNat)
    case atStart => exact ⟨0, Nat.zero_le _, rfl, by rw [sumTo, sumN, wrap64_of (by omega) (by omega)], rfl, Below.refl _ _⟩
    case round =>
      obtain ⟨j, hj, rfl, rfl, rfl, hb⟩ := hrel
      have hbn := hb.size
      have hsg : -1 ≤ sgn j ∧ sgn j ≤ 1 := by unfold sgn; split <;> omega
      by_cases hlt : j < C.length
      · have hji0 : (0 : Int) ≤ (j : Int) := Int.natCast_nonneg _
        have hji1 : (j : Int) < (C.length : Int) := by omega
        obtain ⟨cj, hcj⟩ : ∃ cj, C[j]? = some cj := ⟨_, List.getElem?_eq_getElem hlt⟩
        have hcM : cj < rs.length := HC.out cj (List.mem_of_getElem? hcj)
        have hDD := HD.out.below hb
        obtain ⟨bd, od, x0, rfl, hbd, hx0, hd0⟩ := hDD.at_ (k := j) (by rw [natI_len]; exact hlt)
        have HDC : Hid (∀ (i m : Nat), C[i]? = some m → wr.cell? ⟨bd, od + i, none⟩ = some (.int .i64 (m : Int))) := Lib.hid (fun i m hm => by
          obtain ⟨b', o', e', _, h'⟩ := hDD (by rw [natI_len]; omega)
          injection e' with e'
          injection e' with e1 e2
          subst e1
          subst e2
          exact h' i _ (natI_at hm))
        clear hDD
        rw [natI_at hcj] at hx0
        injection hx0 with hx0
        subst hx0
        obtain ⟨bb, ob, x1, rfl, hbb, hx1, hd1⟩ := (HB.out.below hb).at_ (k := 0) (by rw [natI_len]; simp)
        rw [natI_at (l := r0 :: R) (n := r0) rfl] at hx1
        injection hx1 with hx1
        subst hx1
        obtain ⟨ba, oa, row', Ar, cr, rfl, hba, hrw, hd2, hri⟩ := (HS.out.below hb).at_ (k := r0) (by omega)
        rw [HRW.out] at hrw
        injection hrw with hrw
        subst hrw
        obtain ⟨br, orr, x, rfl, hbr, hx, hd3⟩ := hri.at_ (k := cj) (by omega)
        have hxe := HRE.out x (List.mem_of_getElem? hx)
        have hc0 : (0 : Int) ≤ (cj : Int) := Int.natCast_nonneg _
        have hc1 : (cj : Int) < (row.length : Int) := by omega
        have hr0' : (0 : Int) ≤ (r0 : Int) := Int.natCast_nonneg _
        have hr1 : (r0 : Int) < (rs.length : Int) := by omega
        have hrl0 : (0 : Int) < (rl : Int) := by omega
        rw [Nat.add_zero] at hd1
        have HX := Lib.hid hx
        have HCJ := Lib.hid hcj
        clear hri hx hcj
        have hrx : rowF row cj = x := by simp [rowF, List.getD, HX.out]
        have hst := sumTo_step (r := rowF row) (R := pick rs R) HCJ.out
        rw [hrx] at hst
        have hsn := sgn_succ j
        by_cases hx0 : x = 0
        · have t1 : (x != 0) = false := by simp [hx0]
          have HST := Lib.hid (show sumTo (rowF row) (pick rs R) C j = sumTo (rowF row) (pick rs R) C (j + 1) by rw [hst, hx0]; simp)
          have HSN := Lib.hid hsn.symm
          clear hst hsn hrx hx0
          go_wp2
          exact ⟨⟨j + 1, by omega, by go_num, by rw [HST.out], by rw [HSN.out], hb⟩, by simp [intOf]; omega⟩
        · have t1 : (x != 0) = true := by simp [hx0]
          have HST := Lib.hid hst
          have HSN := Lib.hid hsn.symm
          clear hst hsn hrx
          go_wp2_with fail
          have hbA : Below wr.heap.size wr (wr.drew.alloc (Obj.cells #[] 3)) := (Below.refl _ _).drew.alloc (Nat.le_refl _) _
          have hO1 := own_emptyD wr.drew w.heap.size hbn 3
          have hn1 : ∀ (i : Nat) (u : Value), (intCells (natI (C.take j)))[i]? = some u → (wr.drew.alloc (Obj.cells #[] 3)).cell? ((⟨bd, od, none⟩ : Addr).add i) = some u := fun i u hu => by
            simp only [intCells, natI, List.getElem?_map, Option.map_eq_some_iff] at hu
            obtain ⟨z, ⟨m, hm, rfl⟩, rfl⟩ := hu
            have hij : i < j := by have := (List.getElem?_eq_some_iff.1 hm).1; simp at this; omega
            rw [List.getElem?_take_of_lt hij] at hm
            rw [Addr.add_lit]
            exact (hbA.cell (p := ⟨bd, od + i, none⟩) (by simp only; omega)).trans (HDC.out i m hm)
          have hn2 : ∀ (i : Nat) (u : Value), (intCells (natI (C.drop (j + 1))))[i]? = some u → wr.cell? ((⟨bd, od + (j + 1), none⟩ : Addr).add i) = some u := fun i u hu => by
            simp only [intCells, natI, List.getElem?_map, Option.map_eq_some_iff] at hu
            obtain ⟨z, ⟨m, hm, rfl⟩, rfl⟩ := hu
            rw [List.getElem?_drop] at hm
            rw [Addr.add_lit, Nat.add_assoc]
            exact HDC.out _ m hm
          have hq1 : (j : Int) ≤ (cd : Int) := by omega
          have hq2 : (j : Int) + 1 ≤ (C.length : Int) := by omega
          have hq3 : (C.length : Int) ≤ (cd : Int) := by omega
          have hq4 : (0 : Int) ≤ (j : Int) + 1 := by omega
          have hq5 : j ≤ cd := by omega
          have hq6 : j + 1 ≤ C.length := by omega
          have HO1 := Lib.hid hO1
          have HN1 := Lib.hid hn1
          have HN2 := Lib.hid hn2
          have HBA := Lib.hid hbA
          clear hO1 hn1 hn2 hbA
          go_cut [12, 18] from 18 to 57 (fun s12 s18 wx => s18 = .int .i64 (j : Int) ∧ (∃ A12 c12, s12 = .slice A12 (C.eraseIdx j).length c12 ∧ (C.eraseIdx j).length ≤ c12 ∧ IntS wx wx.heap.size A12 (natI (C.eraseIdx j))) ∧ Below w.heap.size w wx)
          case first =>
            have g1 : (intCells (natI (C.take j))).length = j * 1 := by simp [intCells, natI]; omega
            have g2 : ∀ u ∈ intCells (natI (C.take j)), u.oneCell' = true := fun u hu => by
              simp only [intCells, List.mem_map] at hu
              obtain ⟨z, _, rfl⟩ := hu
              rfl
            have g3 : 0 + j ≤ maxLen := by unfold maxLen; omega
            have g4 : (0 + j) * 8 ≤ 140737488355328 := by omega
            have g5 : w.heap.size ≤ (wr.drew.alloc (Obj.cells #[] 3)).heap.size := by simp; omega
            have k1 : (intCells (natI (C.drop (j + 1)))).length = (C.length - (j + 1)) * 1 := by simp [intCells, natI]
            have k2 : ∀ u ∈ intCells (natI (C.drop (j + 1))), u.oneCell' = true := fun u hu => by
              simp only [intCells, List.mem_map] at hu
              obtain ⟨z, _, rfl⟩ := hu
              rfl
            have k3 : 0 + j + (C.length - (j + 1)) ≤ maxLen := by unfold maxLen; omega
            have k4 : (0 + j + (C.length - (j + 1))) * 8 ≤ 140737488355328 := by omega
            have G2 := Lib.hid g2
            have K2 := Lib.hid k2
            have G1 := Lib.hid g1
            have K1 := Lib.hid k1
            clear g1 g2 k1 k2
            have GS1 : Hid (∀ w1, World.grownBy (wr.drew.alloc (Obj.cells #[] 3)) w1 (some wr.heap.size) → w.heap.size ≤ w1.heap.size) := Lib.hid (fun w1 h => by have := h.size; simp at this; omega)
            have GC1 : Hid (∀ w1, World.grownBy (wr.drew.alloc (Obj.cells #[] 3)) w1 (some wr.heap.size) → ∀ (i : Nat) (u : Value), (intCells (natI (C.drop (j + 1))))[i]? = some u → w1.cell? ((⟨bd, od + (j + 1), none⟩ : Addr).add i) = some u) := Lib.hid (fun w1 h i u hu => by
              have h1 := HN2.out i u hu
              rw [Addr.add_lit] at h1 ⊢
              rw [h.cell_far ⟨bd, od + (j + 1) + i, none⟩ (by simp; omega) (by simp only [ne_eq, Option.some.injEq]; omega)]
              exact (HBA.out.cell (p := ⟨bd, od + (j + 1) + i, none⟩) (by simp only; omega)).trans h1)
            have FIN : Hid (∀ (v1 : Value) (w1 : World) (v2 : Value) (w2 : World), w1.ownsRow w.heap.size 3 1 v1 (0 + j) ([] ++ intCells (natI (C.take j))) → World.grownBy (wr.drew.alloc (Obj.cells #[] 3)) w1 (some wr.heap.size) →
                w2.ownsRow w.heap.size 3 1 v2 (0 + j + (C.length - (j + 1))) ([] ++ intCells (natI (C.take j)) ++ intCells (natI (C.drop (j + 1)))) → World.grownBy w1 w2 v1.ownBlock →
                (∃ A12 c12, v2 = .slice A12 (C.eraseIdx j).length c12 ∧ (C.eraseIdx j).length ≤ c12 ∧ IntS w2 w2.heap.size A12 (natI (C.eraseIdx j))) ∧ Below w.heap.size w w2) := Lib.hid (fun v1 w1 v2 w2 o1 g1 o2 g2 => by
              rw [natI_erase] at o2
              obtain ⟨A2, c2, e1, e2, e3⟩ := own_form o2
              rw [natI_len] at e1 e2
              have s1 := GS1.out w1 g1
              have b1 : Below w.heap.size w w1 := (hb.trans (HBA.out.mono hbn)).grown g1 (by simp; omega) (fun q hq => by injection hq with hq; omega)
              exact ⟨⟨A2, c2, e1, e2, e3⟩, b1.grown g2 s1 (fun q hq => (o1.lt q hq).1)⟩)
            by_cases hcd1 : cd = j + 1
            · have hdr : C.drop (j + 1) = [] := List.drop_eq_nil_iff.2 (by omega)
              have GE : Hid (∀ (w : World) (ad : Addr) (i : Nat) (u : Value), (intCells (natI (C.drop (j + 1))))[i]? = some u → w.cell? (ad.add i) = some u) := Lib.hid (fun w ad i u hu => by rw [hdr] at hu; simp [intCells, natI] at hu)
              have z1 : IntKind.i64.wrap ((j : Int) + 1) = (j : Int) + 1 := by rw [IntKind.wrap_i64]; omega
              have z2 : ((j : Int) + 1).toNat = j + 1 := by omega
              have HZ := Lib.hid (show C.length - (j + 1) = 0 by omega)
              have K1E := Lib.hid (show (intCells (natI (C.drop (j + 1)))).length = 0 * 1 by rw [K1.out, HZ.out])
              have k3E : 0 + j + 0 ≤ maxLen := by have := HZ.out; omega
              have k4E : (0 + j + 0) * 8 ≤ 140737488355328 := by have := HZ.out; omega
              have hq7 : (j : Int) ≤ (j : Int) + 1 := by omega
              have hq8 : (C.length : Int) ≤ (j : Int) + 1 := by omega
              clear hdr
              subst hcd1
              go_region_law (first
                | (refine step_append_ownD rfl (.tmp 34) (.tmp 37) 23 rfl w.heap.size 3 i0 (.int .i64 0) 1 8 Try.underlying23 hi hz0 hz1 hz2 rfl (by decide) _ _ _ rfl HO1.out ⟨bd, od, none⟩ j (j + 1) (intCells (natI (C.take j))) rfl G1.out HN1.out G2.out g3 g4 g5 ?_
                   intro v1 w1 hown1 hgrow1
                   have hg1 : World.grownBy (wr.drew.alloc (Obj.cells #[] 3)) w1 (some wr.heap.size) := hgrow1
                   have HG1 := Lib.hid hg1
                   have hs1 : w.heap.size ≤ w1.heap.size := GS1.out w1 hg1
                   clear hgrow1 hg1)
                | (refine step_append_ownD rfl (.tmp 38) (.tmp 42) 23 rfl w.heap.size 3 i0 (.int .i64 0) 1 8 Try.underlying23 hi hz0 hz1 hz2 rfl (by decide) _ _ _ rfl hown1 _ _ _ (intCells (natI (C.drop (j + 1)))) rfl K1E.out (GE.out w1 _) K2.out k3E k4E hs1 ?_
                   intro v2 w2 hown2 hgrow2))
              go_wp2_with fail
              go_meet
              exact ⟨rfl, FIN.out v1 w1 v2 w2 hown1 HG1.out (by rw [HZ.out]; exact hown2) hgrow2⟩
            · have z1 : IntKind.i64.wrap ((j : Int) + 1) = (j : Int) + 1 := by rw [IntKind.wrap_i64]; omega
              have z2 : ((j : Int) + 1).toNat = j + 1 := by omega
              go_region_law (first
                | (refine step_append_ownD rfl (.tmp 34) (.tmp 37) 23 rfl w.heap.size 3 i0 (.int .i64 0) 1 8 Try.underlying23 hi hz0 hz1 hz2 rfl (by decide) _ _ _ rfl HO1.out ⟨bd, od, none⟩ j cd (intCells (natI (C.take j))) rfl G1.out HN1.out G2.out g3 g4 g5 ?_
                   intro v1 w1 hown1 hgrow1
                   have hg1 : World.grownBy (wr.drew.alloc (Obj.cells #[] 3)) w1 (some wr.heap.size) := hgrow1
                   have HG1 := Lib.hid hg1
                   have hs1 : w.heap.size ≤ w1.heap.size := GS1.out w1 hg1
                   clear hgrow1 hg1)
                | (refine step_append_ownD rfl (.tmp 38) (.tmp 42) 23 rfl w.heap.size 3 i0 (.int .i64 0) 1 8 Try.underlying23 hi hz0 hz1 hz2 rfl (by decide) _ _ _ rfl hown1 _ _ _ (intCells (natI (C.drop (j + 1)))) rfl K1.out (GC1.out w1 HG1.out) K2.out k3 k4 hs1 ?_
                   intro v2 w2 hown2 hgrow2))
              go_wp2_with fail
              go_meet
              exact ⟨rfl, FIN.out v1 w1 v2 w2 hown1 HG1.out hown2 hgrow2⟩
          case rest =>
            obtain ⟨rfl, ⟨A12, c12, rfl, hc12, hi12⟩, hbx⟩ := hcut
            have hel : (C.eraseIdx j).length ≤ 6 := by rw [List.length_eraseIdx_of_lt hlt]; omega
            have hem : ∀ i ∈ C.eraseIdx j, i < rs.length := fun i hi => HC.out i (List.mem_of_mem_eraseIdx hi)
            have hRm : ∀ i ∈ R, i < rs.length := fun i hi => HRI.out i (by simp [hi])
            have hRn : R.length ≤ rl := by have := HLEN.out; simp at this; omega
            have HI := fun A B D ca cb cd w h1 h2 h3 h4 h5 => Lib.hid (IH.out R (C.eraseIdx j) HRL.out (by omega) hel hRm hem A B D ca cb cd w h1 h2 h3 h4 h5)
            have HS2 := Lib.hid (HS.out.up_ hbx)
            have HB2 := Lib.hid (HB.out.up_ hbx)
            have H12 := Lib.hid hi12
            have HR1 := Lib.hid (show rl - 1 = R.length by have := HLEN.out; simp at this; omega)
            have HBX := Lib.hid hbx
            have hbxs := hbx.size
            clear hel hem hRm hi12 hbx HD HDC HO1 HN1 HN2 HBA
            by_cases hcb1 : cb = 1
            · have hq9 : (1 : Int) ≤ (rl : Int) := by omega
              have hqb : (rl : Int) ≤ 1 := by omega
              obtain rfl : R = [] := List.length_eq_zero_iff.1 (by have := HR1.out; omega)
              subst hcb1
              go_wp2_with fail
              refine (HI _ (some ⟨bb, ob, none⟩) _ _ 0 _ _ (Nat.le_refl _) hc12 HS2.out (fun h => absurd h (by simp [natI])) H12.out).out.mono ?_
              rintro e w5 ⟨rfl, hb5⟩
              have hb6 := HBX.out.trans (hb5.mono hbxs)
              clear hb5
              go_wp2
              go_roundw
              case rel => exact ⟨j + 1, by omega, by go_num, by rw [HST.out, wrap_term], by rw [HSN.out], hb6⟩
              case measure => simp [intOf]; omega
            · have hq9 : (1 : Int) ≤ (rl : Int) := by omega
              have hqa : (rl : Int) ≤ (cb : Int) := by omega
              go_wp2_with fail
              rw [HR1.out]
              refine (HI _ _ _ _ _ _ _ (by have := HR1.out; omega) hc12 HS2.out (natI_tail HB2.out) H12.out).out.mono ?_
              rintro e w5 ⟨rfl, hb5⟩
              have hb6 := HBX.out.trans (hb5.mono hbxs)
              clear hb5
              go_wp2
              go_roundw
              case rel => exact ⟨j + 1, by omega, by go_num, by rw [HST.out, wrap_term], by rw [HSN.out], hb6⟩
              case measure => simp [intOf]; omega
      · have hjC : j = C.length := by omega
        have HJ := Lib.hid (show sumTo (rowF row) (pick rs R) C j = detF (rowF row :: pick rs R) C by rw [hjC]; rfl)
        clear hjC
        go_wp2
        go_ret
        exact ⟨ret_intE (by rw [HJ.out]), hb⟩
end Go.Proofs.Ytkmbdclhjdbhpab
