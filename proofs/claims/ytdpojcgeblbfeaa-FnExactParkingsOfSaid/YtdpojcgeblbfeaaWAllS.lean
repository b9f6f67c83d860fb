/- The specification's l11All: all reduced divisors off the sink. -/
import Derived.Test.YtdpojcgeblbfeaaWAllM
import Derived.Test.YtdpojcgeblbfeaaWFrB
import Derived.Test.YtdpojcgeblbfeaaWBI
import Derived.Test.YtdpojcgeblbfeaaWBM
set_option linter.all false
namespace Go.Proofs.Ytdpojcgeblbfeaa
open Go.RowKit

set_option maxRecDepth 100000 in
set_option maxHeartbeats 8000000 in
theorem l11Leaf_any {M s : Nat} {es : List (Int × Int)} (hM0 : 0 < M) (hM6 : M ≤ 6) (hs : s < M) (hn12 : es.length ≤ 12) (hes : ∀ e ∈ es, 0 ≤ e.1 ∧ e.1 < e.2 ∧ e.2 < (M : Int)) (A P : Option Addr) (c cp B0 : Nat) (part : List Int) (v : Value) (rs : List (List Int)) (w : World) (hl : part.length = M) (hr : rs.length ≤ 8388616) (hI : BoxI w B0 B0 P cp part A es v rs) :
    Calls Try.prog 70 #[.agg #[.int .i64 (M : Int), .slice A es.length c], .int .i64 (s : Int), .slice P part.length cp, v] w (GivesBox w B0 v (rs ++ allG (limV s es) (burnsB M s es) 0 part)) := by
  obtain ⟨i1, hj, hy0, hy1, hy2⟩ := info_parts rowsInfo
  have hb0 : Below w.heap.size w (w.alloc (Obj.cells #[.int .i64 (M : Int), .slice A es.length c] 25)) := (Below.refl _ _).alloc (Nat.le_refl _) _
  obtain ⟨W0, hW0⟩ : ∃ X : World, X = w.alloc (Obj.cells #[.int .i64 (M : Int), .slice A es.length c] 25) := ⟨_, rfl⟩
  have hB := Blk.new w 25 #[.int .i64 (M : Int), .slice A es.length c]
  rw [← hW0] at hb0 hB
  have I0 := Lib.hid (hI.next hb0)
  have HB0 := Lib.hid hb0
  have HBX := Lib.hid hB
  have HBN := Lib.hid (fun (W : World) (h1 : EdgeS W W.heap.size A es) (h2 : IntS W W.heap.size P part) => l05Burn_any A P c cp M s es part W hM0 hM6 hs hl hn12 hes h1 h2)
  rw [hl] at HBN
  obtain ⟨R, hR⟩ : ∃ R, R = burntL M es part (s : Int) := ⟨_, rfl⟩
  rw [← hR] at HBN
  obtain ⟨L0, hL0⟩ : ∃ L0, L0 = allG (limV s es) (burnsB M s es) 0 part := ⟨_, rfl⟩
  have hL1 : L0 = if burnsB M s es part = true then [part] else [] := by rw [hL0, allG]
  have HT := Lib.hid (show R.length = M → L0 = [part] from fun h => by rw [hL1, if_pos (by rw [burnsB, ← hR, h]; simp)])
  have HF := Lib.hid (show R.length ≠ M → L0 = [] from fun h => by rw [hL1, if_neg (by rw [burnsB, ← hR]; simp [h])])
  rw [← hL0]
  have HPL := Lib.hid hl
  obtain ⟨x0, x1, x2, x3, x4⟩ := box_facts hB
  have tM : ((M : Int) == (M : Int)) = true := by simp
  have HKP := Lib.hid (fun (W W' : World) (h : W.cell? ⟨w.heap.size, 0, none⟩ = some (.int .i64 (M : Int)) ∧ W.cell? ⟨w.heap.size, 1, none⟩ = some (.slice A es.length c) ∧ Below W0.heap.size W0 W) (hb : Below W.heap.size W W') =>
    show W'.cell? ⟨w.heap.size, 0, none⟩ = some (.int .i64 (M : Int)) ∧ W'.cell? ⟨w.heap.size, 1, none⟩ = some (.slice A es.length c) ∧ Below W0.heap.size W0 W' from
      ⟨(hb.cell (World.block_lt_of_cell? W _ h.1)).trans h.1, (hb.cell (World.block_lt_of_cell? W _ h.2.1)).trans h.2.1, h.2.2.trans (hb.mono h.2.2.size)⟩)
  have HP0 := Lib.hid (show W0.drew.cell? ⟨w.heap.size, 0, none⟩ = some (.int .i64 (M : Int)) ∧ W0.drew.cell? ⟨w.heap.size, 1, none⟩ = some (.slice A es.length c) ∧ Below W0.heap.size W0 W0.drew from ⟨x0, x1, (Below.refl _ _).drew⟩)
  have PB := Lib.hid (fun (W : World) (h : Below W0.heap.size W0 W) => HBN.out W ((I0.out.next h).ed.up (Below.refl _ _) (Nat.le_trans (Nat.le_trans I0.out.lo I0.out.size) h.size)) (QOwn.ints (I0.out.next h).part))
  rw [hl]
  clear hL0 hL1 hR hl hI hB hb0 hes
  go_enter Try.func70, Try.ntmps70
  subst hW0
  go_wp2_with fail
  go_region_held3 (fun w' => w'.cell? ⟨w.heap.size, 0, none⟩ = some (.int .i64 (M : Int)) ∧ w'.cell? ⟨w.heap.size, 1, none⟩ = some (.slice A es.length c) ∧ Below (w.alloc (Obj.cells #[.int .i64 (M : Int), .slice A es.length c] 25)).heap.size (w.alloc (Obj.cells #[.int .i64 (M : Int), .slice A es.length c] 25)) w')
    (first
      | with_reducible exact HP0.out
      | with_reducible exact HKP.out _ _ (by assumption) hb3)
    (first
      | (go_at_call 122; refine (PB.out _ (And.right (And.right (by assumption)))).mono ?_; rintro e w3 ⟨A3, c3, rfl, -, hb3⟩))
  all_goals
    have hb23 : Below (w.alloc (Obj.cells #[.int .i64 (M : Int), .slice A es.length c] 25)).heap.size (w.alloc (Obj.cells #[.int .i64 (M : Int), .slice A es.length c] 25)) w3 := HP0.out.2.2.trans (hb3.mono HP0.out.2.2.size)
    have I3 := Lib.hid (I0.out.next hb23)
    have HB3 := Lib.hid (HB0.out.trans (hb23.mono HB0.out.size))
    clear hb3 hb23 x0 x1 x2 x3 x4
    by_cases hR : R.length = M
    · have tR : ((R.length : Int) == (M : Int)) = true := by simp [hR]
      have HT2 := Lib.hid (HT.out hR)
      clear hR HT HF
      obtain ⟨vs, ho1, ho2⟩ := I3.out.own
      have HO1 := Lib.hid ho1
      have HO2 := Lib.hid ho2
      have hs3 := I3.out.size
      clear ho1 ho2
      go_wp2_with (at_builtin; refine wpList_append_own_at _ rfl _ _ 41 rfl B0 28 i1 (.slice none 0 0) 1 24 Try.underlying41 hj hy0 hy1 hy2 rfl (by decide) _ _ _ rfl (HO1.out.alloc _) ⟨w3.heap.size, 0, none⟩ 1 1 [.slice P M cp] rfl rfl ?c1 ?c2 ?c3 ?c4 ?c5 ?_)
      case c1 => exact one_cell _ _ rfl _ _
      case c2 => simp [Value.oneCell']
      case c3 => unfold maxLen; omega
      case c4 => omega
      case c5 => simp; omega
      intro v4 w4 hown4 hgrow4 _ hat4
      have hba : Below w3.heap.size w3 (w3.alloc (.cells #[.slice P M cp] 28)) := (Below.refl _ _).alloc (Nat.le_refl _) _
      have hpq := I3.out.part
      rw [HPL.out] at hpq
      have hsn := SSOwn.push (HO1.out.alloc _) (fun i r hr => by
        obtain ⟨u, hu, hq⟩ := HO2.out i r hr
        exact ⟨u, hu, hq.below hba⟩) (QOwn.below hpq hba) hown4 hgrow4
      have hfr : Fr w w4 v v4 := (Fr.of_below v (HB3.out.trans (hba.mono HB3.out.size))).trans ⟨hgrow4, by
        rcases hat4 with h | h
        · exact .inl h
        · exact .inr ⟨_, h, by simp⟩⟩
      have HSN := Lib.hid hsn
      have HFR := Lib.hid hfr
      clear hsn hfr hba hown4 hgrow4 hat4
      go_wp2
      go_ret
      exact ⟨v4, rfl, by rw [HT2.out]; exact HSN.out, HFR.out⟩
    · have tR : ((R.length : Int) == (M : Int)) = false := by simp; omega
      have HF2 := Lib.hid (HF.out hR)
      clear hR HT HF
      go_wp2
      go_ret
      exact ⟨v, rfl, by rw [HF2.out, List.append_nil]; exact I3.out.own, Fr.of_below v HB3.out⟩
set_option maxRecDepth 100000 in
set_option maxHeartbeats 16000000 in
theorem l11All_any {M s : Nat} {es : List (Int × Int)} (hM0 : 0 < M) (hM6 : M ≤ 6) (hsM : s < M) (hn12 : es.length ≤ 12) (hes : ∀ e ∈ es, 0 ≤ e.1 ∧ e.1 < e.2 ∧ e.2 < (M : Int)) (A : Option Addr) (c B0 : Nat) : ∀ (k : Nat) (P : Option Addr) (cp : Nat) (part : List Int) (v : Value) (rs : List (List Int)) (w : World), part.length + k = M → rs.length + 12 ^ k ≤ 1048577 * 8 → (∃ b o, P = some ⟨b, o, none⟩) → BoxI w B0 B0 P cp part A es v rs →
    Calls Try.prog 70 #[.agg #[.int .i64 (M : Int), .slice A es.length c], .int .i64 (s : Int), .slice P part.length cp, v] w (GivesBox w B0 v (rs ++ allG (limV s es) (burnsB M s es) k part)) := by
  intro k
  induction k with
  | zero =>
    intro P cp part v rs w hl hr _ hI
    exact l11Leaf_any hM0 hM6 hsM hn12 hes A P c cp B0 part v rs w hl (by simp at hr; omega) hI
  | succ k ih =>
    intro P cp part v rs w hl hr hPs hI
    obtain ⟨i0, hi, hz0, hz1, hz2⟩ := info_parts intInfo
    have hlt : part.length < M := by omega
    obtain ⟨mx, hmx⟩ : ∃ mx, mx = limV s es part.length := ⟨_, rfl⟩
    have hlm := lim_le (k := s) (fun e he => (hes e he).2.1) hn12 part.length
    have hmx12 : mx ≤ 12 := by omega
    have hes1 : ∀ e ∈ es, e.1 < e.2 := fun e he => (hes e he).2.1
    have hvl := valP_lim part.length es hes1
    have hml : limV s es part.length = if part.length = s then 1 else max 1 (valP es part.length).toNat := rfl
    have HMX := Lib.hid (show part.length ≠ s → (mx : Int) = max 1 (valP es part.length) from fun h => by rw [hmx, hml, if_neg h]; omega)
    have HMS := Lib.hid (show part.length = s → mx = 1 from fun h => by rw [hmx, hml, if_pos h])
    have HBL := Lib.hid (show allG (limV s es) (burnsB M s es) (k + 1) part = (List.range mx).flatMap fun x : Nat => allG (limV s es) (burnsB M s es) k (part ++ [(x : Int)]) from by rw [hmx]; rfl)
    obtain ⟨F, hF⟩ : ∃ F : Nat → List (List Int), F = fun n => (List.range n).flatMap fun x : Nat => allG (limV s es) (burnsB M s es) k (part ++ [(x : Int)]) := ⟨_, rfl⟩
    have HF0 := Lib.hid (show F 0 = [] by rw [hF]; rfl)
    have HFS := Lib.hid (show ∀ n, F (n + 1) = F n ++ allG (limV s es) (burnsB M s es) k (part ++ [(n : Int)]) from fun n => by rw [hF]; simp [List.range_succ, List.flatMap_append])
    have HFM := Lib.hid (show allG (limV s es) (burnsB M s es) (k + 1) part = F mx from by rw [HBL.out, hF])
    have HFL := Lib.hid (show ∀ n, n < mx → (rs ++ F n).length + 12 ^ k ≤ 1048577 * 8 from fun n hn => by
      have h1 := flat_lenA (f := fun x : Nat => allG (limV s es) (burnsB M s es) k (part ++ [(x : Int)])) (b := 12 ^ k) n fun x _ => allG_len (lim_le hes1 hn12) k _
      have h2 : (F n).length ≤ n * 12 ^ k := by rw [hF]; exact h1
      have h3 : (n + 1) * 12 ^ k ≤ 12 * 12 ^ k := Nat.mul_le_mul_right _ (by omega)
      rw [Nat.succ_mul] at h3
      rw [Nat.pow_succ, Nat.mul_comm] at hr
      rw [List.length_append]
      omega)
    have HV := Lib.hid (fun (W : World) (h : EdgeS W W.heap.size A es) => specVal_yes (M : Int) A c es (part.length : Int) W (by omega) (vB_t (by omega)) h)
    rw [val_P part.length es hes1] at HV
    have HIH := Lib.hid (fun (n : Nat) (P2 : Option Addr) (c2 : Nat) (vv : Value) (W : World) (hn : n < mx) (hP2 : ∃ b o, P2 = some ⟨b, o, none⟩) (h : BoxI W B0 B0 P2 c2 (part ++ [(n : Int)]) A es vv (rs ++ F n)) => (show Calls Try.prog 70 #[.agg #[.int .i64 (M : Int), .slice A es.length c], .int .i64 (s : Int), .slice P2 (part.length + 1) c2, vv] W (GivesBox W B0 vv (rs ++ F (n + 1))) from by
      have h9 := ih P2 c2 (part ++ [(n : Int)]) vv (rs ++ F n) W (by simp; omega) (HFL.out n hn) hP2 h
      rw [List.length_append, List.length_cons, List.length_nil] at h9
      rw [HFS.out, ← List.append_assoc]
      exact h9))
    rw [HFM.out]
    obtain ⟨val, hval⟩ : ∃ q, q = valP es part.length := ⟨_, rfl⟩
    rw [← hval] at HV HMX hvl
    obtain ⟨bp, op, rfl⟩ := hPs
    have HQC := Lib.hid (fun (W : World) (h : QOwn W B0 (.slice (some ⟨bp, op, none⟩) part.length cp) part) => show ∀ (j : Nat) (z : Int), part[j]? = some z → bp < W.heap.size ∧ W.cell? ⟨bp, op + j, none⟩ = some (.int .i64 z) from fun j z hz => by
      have hpl : 0 < part.length := by have := (List.getElem?_eq_some_iff.1 hz).1; omega
      obtain ⟨b', o', e, h1, h2⟩ := (QOwn.ints h) hpl
      injection e with e
      injection e with e1 e2 _
      subst e1
      subst e2
      exact ⟨h1, h2 j z hz⟩)
    have hb0 : Below w.heap.size w (w.alloc (Obj.cells #[.int .i64 (M : Int), .slice A es.length c] 25)) := (Below.refl _ _).alloc (Nat.le_refl _) _
    obtain ⟨W0, hW0⟩ : ∃ X : World, X = w.alloc (Obj.cells #[.int .i64 (M : Int), .slice A es.length c] 25) := ⟨_, rfl⟩
    have hB := Blk.new w 25 #[.int .i64 (M : Int), .slice A es.length c]
    rw [← hW0] at hb0 hB
    have hs0 : W0.heap.size = w.heap.size + 1 := by rw [hW0]; simp
    have I0 := Lib.hid (hI.next hb0)
    have HB0 := Lib.hid hb0
    have HBX := Lib.hid hB
    have HW0 := Lib.hid hW0
    have hvl : ∀ g, v.ownBlock = some g → g < w.heap.size := fun g hg => by
      obtain ⟨vs, h⟩ := hI.own.row
      exact (h.lt g hg).2
    have HVL := Lib.hid hvl
    have tne : (((part.length : Nat) : Int) == (M : Int)) = false := by simp; omega
    have hpl6 : part.length ≤ 5 := by omega
    by_cases hps : part.length = s
    · have hm1 := HMS.out hps
      have tps : ((part.length : Int) == (s : Int)) = true := by simp [hps]
      clear HMX HMS hW0 hb0 hB hI ih hr hmx HBL hF hval hvl HFM HFL hml hlm hps
      rw [hm1] at HIH ⊢
      clear hm1 hmx12
      have hmx12 : (1 : Nat) ≤ 12 := by decide
      go_enter Try.func70, Try.ntmps70
      go_wp2_with fail
      rw [← HW0.out]
      refine (HV.out W0 (I0.out.ed.up (Below.refl _ _) (Nat.le_trans I0.out.lo I0.out.size))).mono ?_
      rintro e wv ⟨rfl, hbv⟩
      have IV := Lib.hid (I0.out.next hbv)
      have XV := Lib.hid (HBX.out.below hbv HBX.out.lt)
      have RV := Lib.hid (Fr.of_below v hbv)
      clear hbv I0 HBX
      go_wp2
      go_loopw [3, 11] (fun vv i wr => ∃ x : Nat, x ≤ 1 ∧ i = .int .i64 x ∧ BoxI wr B0 B0 (some ⟨bp, op, none⟩) cp part A es vv (rs ++ F x) ∧ Blk wr w.heap.size 25 #[.int .i64 (M : Int), .slice A es.length c] ∧ Fr W0 wr v vv) (fun _ i _ => 1 - (intOf i).toNat)
      case atStart =>
        refine ⟨0, Nat.zero_le _, rfl, ?_, XV.out, RV.out⟩
        rw [HF0.out, List.append_nil]
        exact IV.out
      case round =>
        clear IV XV RV
        obtain ⟨x, hx, rfl, hI, hbx, hfr⟩ := hrel
        have I1 := Lib.hid hI
        have X1 := Lib.hid hbx
        have R1 := Lib.hid hfr
        obtain ⟨x0, x1, x2, x3, x4⟩ := box_facts hbx
        have hx0 : (0 : Int) ≤ (x : Int) := Int.natCast_nonneg _
        have I2 := Lib.hid hI
        have X2 := Lib.hid hbx
        have R2 := Lib.hid hfr
        clear hI hbx hfr I1 X1 R1
        obtain ⟨w1, rfl⟩ : ∃ z : World, z = wr := ⟨_, rfl⟩
        by_cases hlt1 : x < 1
        · have hlt2 : (x : Int) < 1 := by omega
          have hs1 : B0 ≤ w1.heap.size := Nat.le_trans I2.out.lo I2.out.size
          have hpc := HQC.out w1 I2.out.part
          have HU := Lib.hid (show ∀ u ∈ intCells part, u.oneCell' = true from fun u hu => by
            simp only [intCells, List.mem_map] at hu
            obtain ⟨z, _, rfl⟩ := hu
            rfl)
          have HPC := Lib.hid (show ∀ W, Below w1.heap.size w1 W → ∀ (j : Nat) (u : Value), (intCells part)[j]? = some u → W.cell? ((⟨bp, op, none⟩ : Addr).add j) = some u from fun W hb j u hu => by
            simp only [intCells, List.getElem?_map, Option.map_eq_some_iff] at hu
            obtain ⟨z, hz, rfl⟩ := hu
            rw [Addr.add_lit]
            exact (hb.cell (p := ⟨bp, op + j, none⟩) (hpc j z hz).1).trans (hpc j z hz).2)
          have hbA : Below w1.heap.size w1 (w1.drew.alloc (Obj.cells #[] 3)) := (Below.refl _ _).drew.alloc (Nat.le_refl _) _
          have hbX : Below w1.heap.size w1 (w1.drew.alloc (Obj.cells #[.int .i64 (x : Int)] 3)) := (Below.refl _ _).drew.alloc (Nat.le_refl _) _
          have hbAX : Below w1.heap.size w1 ((w1.drew.alloc (Obj.cells #[] 3)).alloc (Obj.cells #[.int .i64 (x : Int)] 3)) := hbA.alloc hbA.size _
          have hbXA : Below w1.heap.size w1 ((w1.drew.alloc (Obj.cells #[.int .i64 (x : Int)] 3)).alloc (Obj.cells #[] 3)) := hbX.alloc hbX.size _
          have hOa := own_emptyD w1.drew w1.heap.size (Nat.le_refl _) 3
          have hOb := World.ownsRow.alloc hOa (Obj.cells #[.int .i64 (x : Int)] 3)
          have hOc := own_emptyD (w1.drew.alloc (Obj.cells #[.int .i64 (x : Int)] 3)) w1.heap.size (by simp) 3
          rw [World.size_alloc] at hOc
          have HOA := Lib.hid hOa
          have HOB := Lib.hid hOb
          have HOC := Lib.hid hOc
          have HBA := Lib.hid hbA
          have HBX := Lib.hid hbX
          have HBAX := Lib.hid hbAX
          have HBXA := Lib.hid hbXA
          -- the new number's cell, behind the first append
          have NXB := Lib.hid (show ∀ w2, World.grownBy ((w1.drew.alloc (Obj.cells #[] 3)).alloc (Obj.cells #[.int .i64 (x : Int)] 3)) w2 (some w1.heap.size) → ∀ (j : Nat) (u : Value), [Value.int .i64 (x : Int)][j]? = some u → w2.cell? ((⟨w1.heap.size + 1, 0, none⟩ : Addr).add j) = some u from fun w2 hg j u hu => by
            have h := one_cell (w1.drew.alloc (Obj.cells #[] 3)) (w1.heap.size + 1) (by simp) 3 (.int .i64 (x : Int)) j u hu
            rw [Addr.add_lit] at h ⊢
            exact (World.cell?_of_block (a := ⟨w1.heap.size + 1, 0 + j, none⟩) (hg.block (w1.heap.size + 1) (by simp) (by simp))).trans h)
          have NXC := Lib.hid (show ∀ w2, World.grownBy ((w1.drew.alloc (Obj.cells #[.int .i64 (x : Int)] 3)).alloc (Obj.cells #[] 3)) w2 (some (w1.heap.size + 1)) → ∀ (j : Nat) (u : Value), [Value.int .i64 (x : Int)][j]? = some u → w2.cell? ((⟨w1.heap.size, 0, none⟩ : Addr).add j) = some u from fun w2 hg j u hu => by
            have h := one_cell w1.drew w1.heap.size rfl 3 (.int .i64 (x : Int)) j u hu
            rw [Addr.add_lit] at h ⊢
            have h2 : ((w1.drew.alloc (Obj.cells #[.int .i64 (x : Int)] 3)).alloc (Obj.cells #[] 3)).cell? ⟨w1.heap.size, 0 + j, none⟩ = some u :=
              (((Below.refl (w1.drew.alloc (Obj.cells #[.int .i64 (x : Int)] 3)).heap.size _).alloc (Nat.le_refl _) _).cell (p := ⟨w1.heap.size, 0 + j, none⟩) (by simp)).trans h
            exact (World.cell?_of_block (a := ⟨w1.heap.size, 0 + j, none⟩) (hg.block w1.heap.size (by simp; omega) (by simp))).trans h2)
          have HGR := Lib.hid (fun (W W' : World) (row : Option Nat) (h : Below w1.heap.size w1 W) (hg : W.grownBy W' row) (hr : ∀ q, row = some q → w1.heap.size ≤ q) => below_grown h (Nat.le_refl _) hg hr)
          have HP0 := Lib.hid (show w1.drew.cell? ⟨w.heap.size, 0, none⟩ = some (.int .i64 (M : Int)) ∧ w1.drew.cell? ⟨w.heap.size, 1, none⟩ = some (.slice A es.length c) from ⟨x0, x1⟩)
          have hxs : w.heap.size < w1.heap.size := x4
          have HVN := Lib.hid (show some w.heap.size ≠ u3.ownBlock from fun e => by
            rcases R2.out.at_ with h | ⟨q, h, hq⟩
            · have := HVL.out _ (h.symm.trans e.symm)
              omega
            · rw [h] at e
              injection e with e
              omega)
          have g1 : (intCells part).length = part.length * 1 := by simp [intCells]
          have g3 : 0 + part.length ≤ maxLen := by unfold maxLen; omega
          have g4 : (0 + part.length) * 8 ≤ 140737488355328 := by omega
          have g5 : w1.heap.size ≤ (w1.drew.alloc (Obj.cells #[] 3)).heap.size := hbA.size
          have g6 : w1.heap.size ≤ ((w1.drew.alloc (Obj.cells #[] 3)).alloc (Obj.cells #[.int .i64 (x : Int)] 3)).heap.size := hbAX.size
          have g7 : w1.heap.size ≤ ((w1.drew.alloc (Obj.cells #[.int .i64 (x : Int)] 3)).alloc (Obj.cells #[] 3)).heap.size := hbXA.size
          have G1 := Lib.hid g1
          have k3 : 0 + part.length + 1 ≤ maxLen := by unfold maxLen; omega
          have k4 : (0 + part.length + 1) * 8 ≤ 140737488355328 := by omega
          have HOR := Lib.hid (show ∀ w2, (World.grownBy (w1.drew.alloc (Obj.cells #[] 3)) w2 (some w1.heap.size) ∨ World.grownBy ((w1.drew.alloc (Obj.cells #[] 3)).alloc (Obj.cells #[.int .i64 (x : Int)] 3)) w2 (some w1.heap.size)) ∨ World.grownBy ((w1.drew.alloc (Obj.cells #[.int .i64 (x : Int)] 3)).alloc (Obj.cells #[] 3)) w2 (some (w1.heap.size + 1)) → Below w1.heap.size w1 w2 from fun w2 h => by
            rcases h with (h | h) | h
            · exact HGR.out _ _ _ HBA.out h (fun q hq => by injection hq with hq; omega)
            · exact HGR.out _ _ _ HBAX.out h (fun q hq => by injection hq with hq; omega)
            · exact HGR.out _ _ _ HBXA.out h (fun q hq => by injection hq with hq; omega))
          have HBK := Lib.hid (show ∀ w2, (World.grownBy (w1.drew.alloc (Obj.cells #[] 3)) w2 (some w1.heap.size) ∨ World.grownBy ((w1.drew.alloc (Obj.cells #[] 3)).alloc (Obj.cells #[.int .i64 (x : Int)] 3)) w2 (some w1.heap.size)) ∨ World.grownBy ((w1.drew.alloc (Obj.cells #[.int .i64 (x : Int)] 3)).alloc (Obj.cells #[] 3)) w2 (some (w1.heap.size + 1)) → w2.heap[w.heap.size]? = w1.heap[w.heap.size]? from fun w2 h => (HOR.out w2 h).block _ hxs)
          have HCALL := Lib.hid (fun (v3 : Value) (w3 : World) (h3 : w3.ownsRow w1.heap.size 3 1 v3 (0 + part.length + 1) ([] ++ intCells part ++ [.int .i64 (x : Int)])) (hb : Below w1.heap.size w1 w3) => (show Calls Try.prog 70 #[.agg #[.int .i64 (M : Int), .slice A es.length c], .int .i64 (s : Int), v3, u3] w3 (GivesBox w3 B0 u3 (rs ++ F (x + 1))) from by
            have hq : QOwn w3 B0 v3 (part ++ [(x : Int)]) := by
              have h4 := ownsRow_mono h3 hs1
              have e1 : 0 + part.length + 1 = (part ++ [(x : Int)]).length := by simp
              have e2 : ([] : List Value) ++ intCells part ++ [.int .i64 (x : Int)] = intCells (part ++ [(x : Int)]) := by simp [intCells]
              rw [e1, e2] at h4
              exact h4
            obtain ⟨P2, c2, rfl, hP2⟩ : ∃ (P2 : Option Addr) (c2 : Nat), v3 = .slice P2 (part ++ [(x : Int)]).length c2 ∧ ∃ b o, P2 = some ⟨b, o, none⟩ := by
              rcases hq.2 with ⟨_, e0⟩ | ⟨g, cap, cur, e, _⟩
              · simp at e0
              · exact ⟨_, _, e, g, 0, rfl⟩
            have h5 := HIH.out x P2 c2 u3 w3 hlt1 hP2 ⟨I2.out.lo, (I2.out.next hb).own, hq, (I2.out.next hb).ed, (I2.out.next hb).size⟩
            rw [List.length_append, List.length_cons, List.length_nil]
            exact h5))
          clear hpc hOa hOb hOc hbA hbX hbAX hbXA g1
          go_wp2_with fail
          go_region_held3 (fun w' => w'.cell? ⟨w.heap.size, 0, none⟩ = some (.int .i64 (M : Int)) ∧ w'.cell? ⟨w.heap.size, 1, none⟩ = some (.slice A es.length c))
            (first
              | with_reducible exact HP0.out
              | exact keepC HP0.out hk4
              | exact keepC HP0.out hk3
              | exact keepC HP0.out hk2
              | exact keepC (by assumption) (((Below.refl _ _).alloc (Nat.le_refl _) _).block _ (by first | exact Nat.lt_of_lt_of_le hxs hbel2.size | exact hxs | (simp; omega))))
            (first
              | (refine step_append_ownD rfl (.tmp 45) (.tmp 46) 28 rfl w1.heap.size 3 i0 (.int .i64 0) 1 8 Try.underlying28 hi hz0 hz1 hz2 rfl (by decide) _ _ _ rfl (by first | exact HOA.out | exact HOB.out | exact HOC.out) ⟨bp, op, none⟩ part.length cp (intCells part) rfl G1.out (by first | exact HPC.out _ HBA.out | exact HPC.out _ HBAX.out | exact HPC.out _ HBXA.out) HU.out g3 g4 (by first | exact g5 | exact g6 | exact g7) ?_
                 intro v2 w2 hown2 hgrow2
                 have hor2 : (World.grownBy (w1.drew.alloc (Obj.cells #[] 3)) w2 (some w1.heap.size) ∨ World.grownBy ((w1.drew.alloc (Obj.cells #[] 3)).alloc (Obj.cells #[.int .i64 (x : Int)] 3)) w2 (some w1.heap.size)) ∨ World.grownBy ((w1.drew.alloc (Obj.cells #[.int .i64 (x : Int)] 3)).alloc (Obj.cells #[] 3)) w2 (some (w1.heap.size + 1)) := (by first | exact .inl (.inl hgrow2) | exact .inl (.inr hgrow2) | exact .inr hgrow2)
                 have hbel2 : Below w1.heap.size w1 w2 := HOR.out w2 hor2
                 have hk2 := HBK.out w2 hor2)
              | (refine step_append_ownD rfl (.tmp 47) (.tmp 49) 28 rfl w1.heap.size 3 i0 (.int .i64 0) 1 8 Try.underlying28 hi hz0 hz1 hz2 rfl (by decide) _ _ _ rfl (by first | exact hown2 | exact hown2.alloc _) _ 1 1 [.int .i64 (x : Int)] rfl rfl (by first | exact one_cell _ _ rfl _ _ | exact NXB.out _ hgrow2 | exact NXC.out _ hgrow2) (by simp [Value.oneCell']) k3 k4 (by first | exact hbel2.size | exact Nat.le_trans hbel2.size (by simp)) ?_
                 intro v3 w3 hown3 hgrow3
                 have hbel3 : Below w1.heap.size w1 w3 := (by first | exact HGR.out _ _ _ hbel2 hgrow3 (fun q hq => (hown2.lt q hq).1) | exact HGR.out _ _ _ (hbel2.alloc hbel2.size _) hgrow3 (fun q hq => (hown2.lt q hq).1))
                 have hk3 : w3.heap[w.heap.size]? = w1.heap[w.heap.size]? := hbel3.block _ hxs)
              | (go_at_call 70; refine (HCALL.out v3 w3 hown3 hbel3).mono ?_; rintro e w4 ⟨v4, rfl, hso4, hfr4⟩; have hk4 : w4.heap[w.heap.size]? = w1.heap[w.heap.size]? := (hfr4.gr.block w.heap.size (Nat.lt_of_lt_of_le hxs hbel3.size) HVN.out).trans hk3))
          all_goals
            have I4 := Lib.hid ((I2.out.next hbel3).fr hfr4 hso4)
            have X4 := Lib.hid (show Blk w4 w.heap.size 25 #[.int .i64 (M : Int), .slice A es.length c] from hk4.trans X2.out)
            have R4 := Lib.hid (R2.out.trans ((Fr.of_below u3 hbel3).trans hfr4))
            clear hk4 hk3 hk2 hbel3 hbel2 hfr4 hso4 hown3 hown2 hgrow3 hgrow2 hor2 x0 x1 x2 x3 x4 HVN HGR HP0
            go_wp2
            exact ⟨⟨x + 1, by omega, by go_num, I4.out, X4.out, R4.out⟩, by simp [intOf]; omega⟩
        · have hlt2 : ¬ ((x : Int) < 1) := by omega
          have hxm : x = 1 := by omega
          have HO := Lib.hid (show SSOwn w1 B0 u3 (rs ++ F 1) from by rw [← hxm]; exact I2.out.own)
          have HR := Lib.hid (show Fr w w1 v u3 from (Fr.of_below v HB0.out).trans R2.out)
          clear hxm
          go_wp2
          go_ret
          exact ⟨u3, rfl, HO.out, HR.out⟩
    · have hmv := HMX.out hps
      have tps : ((part.length : Int) == (s : Int)) = false := by simp; omega
      clear HMX HMS hW0 hb0 hB hI ih hr hmx HBL hF hval HFM HFL hml hlm hps
      go_enter Try.func70, Try.ntmps70
      go_wp2_with fail
      rw [← HW0.out]
      refine (HV.out W0 (I0.out.ed.up (Below.refl _ _) (Nat.le_trans I0.out.lo I0.out.size))).mono ?_
      rintro e wv ⟨rfl, hbv⟩
      have IV := Lib.hid (I0.out.next hbv)
      have XV := Lib.hid (HBX.out.below hbv HBX.out.lt)
      have RV := Lib.hid (Fr.of_below v hbv)
      clear hbv I0 HBX
      go_wp2
      go_loopw [3, 11] (fun vv i wr => ∃ x : Nat, x ≤ mx ∧ i = .int .i64 x ∧ BoxI wr B0 B0 (some ⟨bp, op, none⟩) cp part A es vv (rs ++ F x) ∧ Blk wr w.heap.size 25 #[.int .i64 (M : Int), .slice A es.length c] ∧ Fr W0 wr v vv) (fun _ i _ => mx - (intOf i).toNat)
      case atStart =>
        refine ⟨0, Nat.zero_le _, rfl, ?_, XV.out, RV.out⟩
        rw [HF0.out, List.append_nil]
        exact IV.out
      case round =>
        clear IV XV RV
        obtain ⟨x, hx, rfl, hI, hbx, hfr⟩ := hrel
        have I1 := Lib.hid hI
        have X1 := Lib.hid hbx
        have R1 := Lib.hid hfr
        obtain ⟨x0, x1, x2, x3, x4⟩ := box_facts hbx
        have hx0 : (0 : Int) ≤ (x : Int) := Int.natCast_nonneg _
        have I2 := Lib.hid hI
        have X2 := Lib.hid hbx
        have R2 := Lib.hid hfr
        clear hI hbx hfr I1 X1 R1
        obtain ⟨w1, rfl⟩ : ∃ z : World, z = wr := ⟨_, rfl⟩
        by_cases hlt1 : x < mx
        · have hlt2 : (x : Int) < max 1 val := by omega
          have hs1 : B0 ≤ w1.heap.size := Nat.le_trans I2.out.lo I2.out.size
          have hpc := HQC.out w1 I2.out.part
          have HU := Lib.hid (show ∀ u ∈ intCells part, u.oneCell' = true from fun u hu => by
            simp only [intCells, List.mem_map] at hu
            obtain ⟨z, _, rfl⟩ := hu
            rfl)
          have HPC := Lib.hid (show ∀ W, Below w1.heap.size w1 W → ∀ (j : Nat) (u : Value), (intCells part)[j]? = some u → W.cell? ((⟨bp, op, none⟩ : Addr).add j) = some u from fun W hb j u hu => by
            simp only [intCells, List.getElem?_map, Option.map_eq_some_iff] at hu
            obtain ⟨z, hz, rfl⟩ := hu
            rw [Addr.add_lit]
            exact (hb.cell (p := ⟨bp, op + j, none⟩) (hpc j z hz).1).trans (hpc j z hz).2)
          have hbA : Below w1.heap.size w1 (w1.drew.alloc (Obj.cells #[] 3)) := (Below.refl _ _).drew.alloc (Nat.le_refl _) _
          have hbX : Below w1.heap.size w1 (w1.drew.alloc (Obj.cells #[.int .i64 (x : Int)] 3)) := (Below.refl _ _).drew.alloc (Nat.le_refl _) _
          have hbAX : Below w1.heap.size w1 ((w1.drew.alloc (Obj.cells #[] 3)).alloc (Obj.cells #[.int .i64 (x : Int)] 3)) := hbA.alloc hbA.size _
          have hbXA : Below w1.heap.size w1 ((w1.drew.alloc (Obj.cells #[.int .i64 (x : Int)] 3)).alloc (Obj.cells #[] 3)) := hbX.alloc hbX.size _
          have hOa := own_emptyD w1.drew w1.heap.size (Nat.le_refl _) 3
          have hOb := World.ownsRow.alloc hOa (Obj.cells #[.int .i64 (x : Int)] 3)
          have hOc := own_emptyD (w1.drew.alloc (Obj.cells #[.int .i64 (x : Int)] 3)) w1.heap.size (by simp) 3
          rw [World.size_alloc] at hOc
          have HOA := Lib.hid hOa
          have HOB := Lib.hid hOb
          have HOC := Lib.hid hOc
          have HBA := Lib.hid hbA
          have HBX := Lib.hid hbX
          have HBAX := Lib.hid hbAX
          have HBXA := Lib.hid hbXA
          -- the new number's cell, behind the first append
          have NXB := Lib.hid (show ∀ w2, World.grownBy ((w1.drew.alloc (Obj.cells #[] 3)).alloc (Obj.cells #[.int .i64 (x : Int)] 3)) w2 (some w1.heap.size) → ∀ (j : Nat) (u : Value), [Value.int .i64 (x : Int)][j]? = some u → w2.cell? ((⟨w1.heap.size + 1, 0, none⟩ : Addr).add j) = some u from fun w2 hg j u hu => by
            have h := one_cell (w1.drew.alloc (Obj.cells #[] 3)) (w1.heap.size + 1) (by simp) 3 (.int .i64 (x : Int)) j u hu
            rw [Addr.add_lit] at h ⊢
            exact (World.cell?_of_block (a := ⟨w1.heap.size + 1, 0 + j, none⟩) (hg.block (w1.heap.size + 1) (by simp) (by simp))).trans h)
          have NXC := Lib.hid (show ∀ w2, World.grownBy ((w1.drew.alloc (Obj.cells #[.int .i64 (x : Int)] 3)).alloc (Obj.cells #[] 3)) w2 (some (w1.heap.size + 1)) → ∀ (j : Nat) (u : Value), [Value.int .i64 (x : Int)][j]? = some u → w2.cell? ((⟨w1.heap.size, 0, none⟩ : Addr).add j) = some u from fun w2 hg j u hu => by
            have h := one_cell w1.drew w1.heap.size rfl 3 (.int .i64 (x : Int)) j u hu
            rw [Addr.add_lit] at h ⊢
            have h2 : ((w1.drew.alloc (Obj.cells #[.int .i64 (x : Int)] 3)).alloc (Obj.cells #[] 3)).cell? ⟨w1.heap.size, 0 + j, none⟩ = some u :=
              (((Below.refl (w1.drew.alloc (Obj.cells #[.int .i64 (x : Int)] 3)).heap.size _).alloc (Nat.le_refl _) _).cell (p := ⟨w1.heap.size, 0 + j, none⟩) (by simp)).trans h
            exact (World.cell?_of_block (a := ⟨w1.heap.size, 0 + j, none⟩) (hg.block w1.heap.size (by simp; omega) (by simp))).trans h2)
          have HGR := Lib.hid (fun (W W' : World) (row : Option Nat) (h : Below w1.heap.size w1 W) (hg : W.grownBy W' row) (hr : ∀ q, row = some q → w1.heap.size ≤ q) => below_grown h (Nat.le_refl _) hg hr)
          have HP0 := Lib.hid (show w1.drew.cell? ⟨w.heap.size, 0, none⟩ = some (.int .i64 (M : Int)) ∧ w1.drew.cell? ⟨w.heap.size, 1, none⟩ = some (.slice A es.length c) from ⟨x0, x1⟩)
          have hxs : w.heap.size < w1.heap.size := x4
          have HVN := Lib.hid (show some w.heap.size ≠ u3.ownBlock from fun e => by
            rcases R2.out.at_ with h | ⟨q, h, hq⟩
            · have := HVL.out _ (h.symm.trans e.symm)
              omega
            · rw [h] at e
              injection e with e
              omega)
          have g1 : (intCells part).length = part.length * 1 := by simp [intCells]
          have g3 : 0 + part.length ≤ maxLen := by unfold maxLen; omega
          have g4 : (0 + part.length) * 8 ≤ 140737488355328 := by omega
          have g5 : w1.heap.size ≤ (w1.drew.alloc (Obj.cells #[] 3)).heap.size := hbA.size
          have g6 : w1.heap.size ≤ ((w1.drew.alloc (Obj.cells #[] 3)).alloc (Obj.cells #[.int .i64 (x : Int)] 3)).heap.size := hbAX.size
          have g7 : w1.heap.size ≤ ((w1.drew.alloc (Obj.cells #[.int .i64 (x : Int)] 3)).alloc (Obj.cells #[] 3)).heap.size := hbXA.size
          have G1 := Lib.hid g1
          have k3 : 0 + part.length + 1 ≤ maxLen := by unfold maxLen; omega
          have k4 : (0 + part.length + 1) * 8 ≤ 140737488355328 := by omega
          have HOR := Lib.hid (show ∀ w2, (World.grownBy (w1.drew.alloc (Obj.cells #[] 3)) w2 (some w1.heap.size) ∨ World.grownBy ((w1.drew.alloc (Obj.cells #[] 3)).alloc (Obj.cells #[.int .i64 (x : Int)] 3)) w2 (some w1.heap.size)) ∨ World.grownBy ((w1.drew.alloc (Obj.cells #[.int .i64 (x : Int)] 3)).alloc (Obj.cells #[] 3)) w2 (some (w1.heap.size + 1)) → Below w1.heap.size w1 w2 from fun w2 h => by
            rcases h with (h | h) | h
            · exact HGR.out _ _ _ HBA.out h (fun q hq => by injection hq with hq; omega)
            · exact HGR.out _ _ _ HBAX.out h (fun q hq => by injection hq with hq; omega)
            · exact HGR.out _ _ _ HBXA.out h (fun q hq => by injection hq with hq; omega))
          have HBK := Lib.hid (show ∀ w2, (World.grownBy (w1.drew.alloc (Obj.cells #[] 3)) w2 (some w1.heap.size) ∨ World.grownBy ((w1.drew.alloc (Obj.cells #[] 3)).alloc (Obj.cells #[.int .i64 (x : Int)] 3)) w2 (some w1.heap.size)) ∨ World.grownBy ((w1.drew.alloc (Obj.cells #[.int .i64 (x : Int)] 3)).alloc (Obj.cells #[] 3)) w2 (some (w1.heap.size + 1)) → w2.heap[w.heap.size]? = w1.heap[w.heap.size]? from fun w2 h => (HOR.out w2 h).block _ hxs)
          have HCALL := Lib.hid (fun (v3 : Value) (w3 : World) (h3 : w3.ownsRow w1.heap.size 3 1 v3 (0 + part.length + 1) ([] ++ intCells part ++ [.int .i64 (x : Int)])) (hb : Below w1.heap.size w1 w3) => (show Calls Try.prog 70 #[.agg #[.int .i64 (M : Int), .slice A es.length c], .int .i64 (s : Int), v3, u3] w3 (GivesBox w3 B0 u3 (rs ++ F (x + 1))) from by
            have hq : QOwn w3 B0 v3 (part ++ [(x : Int)]) := by
              have h4 := ownsRow_mono h3 hs1
              have e1 : 0 + part.length + 1 = (part ++ [(x : Int)]).length := by simp
              have e2 : ([] : List Value) ++ intCells part ++ [.int .i64 (x : Int)] = intCells (part ++ [(x : Int)]) := by simp [intCells]
              rw [e1, e2] at h4
              exact h4
            obtain ⟨P2, c2, rfl, hP2⟩ : ∃ (P2 : Option Addr) (c2 : Nat), v3 = .slice P2 (part ++ [(x : Int)]).length c2 ∧ ∃ b o, P2 = some ⟨b, o, none⟩ := by
              rcases hq.2 with ⟨_, e0⟩ | ⟨g, cap, cur, e, _⟩
              · simp at e0
              · exact ⟨_, _, e, g, 0, rfl⟩
            have h5 := HIH.out x P2 c2 u3 w3 hlt1 hP2 ⟨I2.out.lo, (I2.out.next hb).own, hq, (I2.out.next hb).ed, (I2.out.next hb).size⟩
            rw [List.length_append, List.length_cons, List.length_nil]
            exact h5))
          clear hpc hOa hOb hOc hbA hbX hbAX hbXA g1
          go_wp2_with fail
          go_region_held3 (fun w' => w'.cell? ⟨w.heap.size, 0, none⟩ = some (.int .i64 (M : Int)) ∧ w'.cell? ⟨w.heap.size, 1, none⟩ = some (.slice A es.length c))
            (first
              | with_reducible exact HP0.out
              | exact keepC HP0.out hk4
              | exact keepC HP0.out hk3
              | exact keepC HP0.out hk2
              | exact keepC (by assumption) (((Below.refl _ _).alloc (Nat.le_refl _) _).block _ (by first | exact Nat.lt_of_lt_of_le hxs hbel2.size | exact hxs | (simp; omega))))
            (first
              | (refine step_append_ownD rfl (.tmp 45) (.tmp 46) 28 rfl w1.heap.size 3 i0 (.int .i64 0) 1 8 Try.underlying28 hi hz0 hz1 hz2 rfl (by decide) _ _ _ rfl (by first | exact HOA.out | exact HOB.out | exact HOC.out) ⟨bp, op, none⟩ part.length cp (intCells part) rfl G1.out (by first | exact HPC.out _ HBA.out | exact HPC.out _ HBAX.out | exact HPC.out _ HBXA.out) HU.out g3 g4 (by first | exact g5 | exact g6 | exact g7) ?_
                 intro v2 w2 hown2 hgrow2
                 have hor2 : (World.grownBy (w1.drew.alloc (Obj.cells #[] 3)) w2 (some w1.heap.size) ∨ World.grownBy ((w1.drew.alloc (Obj.cells #[] 3)).alloc (Obj.cells #[.int .i64 (x : Int)] 3)) w2 (some w1.heap.size)) ∨ World.grownBy ((w1.drew.alloc (Obj.cells #[.int .i64 (x : Int)] 3)).alloc (Obj.cells #[] 3)) w2 (some (w1.heap.size + 1)) := (by first | exact .inl (.inl hgrow2) | exact .inl (.inr hgrow2) | exact .inr hgrow2)
                 have hbel2 : Below w1.heap.size w1 w2 := HOR.out w2 hor2
                 have hk2 := HBK.out w2 hor2)
              | (refine step_append_ownD rfl (.tmp 47) (.tmp 49) 28 rfl w1.heap.size 3 i0 (.int .i64 0) 1 8 Try.underlying28 hi hz0 hz1 hz2 rfl (by decide) _ _ _ rfl (by first | exact hown2 | exact hown2.alloc _) _ 1 1 [.int .i64 (x : Int)] rfl rfl (by first | exact one_cell _ _ rfl _ _ | exact NXB.out _ hgrow2 | exact NXC.out _ hgrow2) (by simp [Value.oneCell']) k3 k4 (by first | exact hbel2.size | exact Nat.le_trans hbel2.size (by simp)) ?_
                 intro v3 w3 hown3 hgrow3
                 have hbel3 : Below w1.heap.size w1 w3 := (by first | exact HGR.out _ _ _ hbel2 hgrow3 (fun q hq => (hown2.lt q hq).1) | exact HGR.out _ _ _ (hbel2.alloc hbel2.size _) hgrow3 (fun q hq => (hown2.lt q hq).1))
                 have hk3 : w3.heap[w.heap.size]? = w1.heap[w.heap.size]? := hbel3.block _ hxs)
              | (go_at_call 70; refine (HCALL.out v3 w3 hown3 hbel3).mono ?_; rintro e w4 ⟨v4, rfl, hso4, hfr4⟩; have hk4 : w4.heap[w.heap.size]? = w1.heap[w.heap.size]? := (hfr4.gr.block w.heap.size (Nat.lt_of_lt_of_le hxs hbel3.size) HVN.out).trans hk3))
          all_goals
            have I4 := Lib.hid ((I2.out.next hbel3).fr hfr4 hso4)
            have X4 := Lib.hid (show Blk w4 w.heap.size 25 #[.int .i64 (M : Int), .slice A es.length c] from hk4.trans X2.out)
            have R4 := Lib.hid (R2.out.trans ((Fr.of_below u3 hbel3).trans hfr4))
            clear hk4 hk3 hk2 hbel3 hbel2 hfr4 hso4 hown3 hown2 hgrow3 hgrow2 hor2 x0 x1 x2 x3 x4 HVN HGR HP0
            go_wp2
            exact ⟨⟨x + 1, by omega, by go_num, I4.out, X4.out, R4.out⟩, by simp [intOf]; omega⟩
        · have hlt2 : ¬ ((x : Int) < max 1 val) := by omega
          have hxm : x = mx := by omega
          have HO := Lib.hid (show SSOwn w1 B0 u3 (rs ++ F mx) from by rw [← hxm]; exact I2.out.own)
          have HR := Lib.hid (show Fr w w1 v u3 from (Fr.of_below v HB0.out).trans R2.out)
          clear hxm
          go_wp2
          go_ret
          exact ⟨u3, rfl, HO.out, HR.out⟩
end Go.Proofs.Ytdpojcgeblbfeaa
