/- Debts beside q: both sides; the vertices that are spared. -/
import Derived.Test.YtcfhkaefjhcglaaBurnF
namespace Go.Proofs.Ytcfhkaefjhcglaa
open Go.RowKit

def debtAt (d : List Int) (q : Int) (v : Nat) : Bool := !decide ((v : Int) = q) && decide (d.getD v 0 < 0)
/-- the least vertex other than q in debt, or -1 -/
def debtor (d : List Int) (q : Int) : Int := match (List.range d.length).find? (debtAt d q) with
  | some v => (v : Int)
  | none => -1
def hasDebt (d : List Int) (q : Int) : Bool := (List.range d.length).any (debtAt d q)
theorem debtor_none {d : List Int} {q : Int} (h : ∀ v, v < d.length → debtAt d q v = false) : debtor d q = -1 ∧ hasDebt d q = false := by
  have h1 : (List.range d.length).find? (debtAt d q) = none := by
    rw [List.find?_eq_none]
    intro x hx
    rw [h x (List.mem_range.1 hx)]
    simp
  refine ⟨by rw [debtor, h1], ?_⟩
  rw [hasDebt, List.any_eq_false]
  intro x hx
  rw [h x (List.mem_range.1 hx)]
  simp
theorem debtor_some {d : List Int} {q : Int} {v : Nat} (hv : v < d.length) (hc : debtAt d q v = true) (h : ∀ j, j < v → debtAt d q j = false) : debtor d q = (v : Int) ∧ hasDebt d q = true := by
  have h1 : (List.range d.length).find? (debtAt d q) = some v := by
    rw [List.find?_range_eq_some]
    exact ⟨hc, List.mem_range.2 hv, fun j hj => by rw [h j hj]; rfl⟩
  refine ⟨by rw [debtor, h1], ?_⟩
  rw [hasDebt, List.any_eq_true]
  exact ⟨v, List.mem_range.2 hv, hc⟩
theorem least_or (P : Nat → Bool) : ∀ n, (∀ v, v < n → P v = false) ∨ ∃ v, v < n ∧ P v = true ∧ ∀ j, j < v → P j = false
  | 0 => .inl fun v h => by omega
  | n + 1 => by
    rcases least_or P n with h | ⟨v, h1, h2, h3⟩
    · cases hc : P n with
      | false =>
        refine .inl fun v hv => ?_
        by_cases e : v = n
        · rw [e]; exact hc
        · exact h v (by omega)
      | true => exact .inr ⟨n, by omega, hc, h⟩
    · exact .inr ⟨v, by omega, h2, h3⟩
theorem debtor_cases (d : List Int) (q : Int) : (debtor d q = -1 ∧ hasDebt d q = false ∧ ∀ v, v < d.length → debtAt d q v = false) ∨ ∃ v : Nat, v < d.length ∧ debtor d q = (v : Int) ∧ hasDebt d q = true ∧ debtAt d q v = true ∧ ∀ j, j < v → debtAt d q j = false := by
  rcases least_or (debtAt d q) d.length with h | ⟨v, h1, h2, h3⟩
  · exact .inl ⟨(debtor_none h).1, (debtor_none h).2, h⟩
  · exact .inr ⟨v, h1, (debtor_some h1 h2 h3).1, (debtor_some h1 h2 h3).2, h2, h3⟩
theorem debtor_eq (d : List Int) (q : Int) : (debtor d q == -1) = !hasDebt d q := by
  rcases debtor_cases d q with ⟨h1, h2, _⟩ | ⟨v, _, h1, h2, _⟩
  · rw [h1, h2]; rfl
  · rw [h1, h2]
    simp
theorem debtor_lo (d : List Int) (q : Int) : -1 ≤ debtor d q ∧ debtor d q < (d.length : Int) + 1 := by
  rcases debtor_cases d q with ⟨h1, _⟩ | ⟨v, h0, h1, _⟩ <;> omega

set_option maxHeartbeats 400000 in
theorem isDebtB (z : Int) (w : World) : Calls Try.prog 79 #[.int .i64 z] w fun e w' => e = .returned (.bool (decide (z < 0))) ∧ w = w' := by
  go_enter Try.func79, Try.ntmps79
  go_wp2
  go_ret
  exact ⟨rfl, rfl⟩
set_option maxRecDepth 100000 in
set_option maxHeartbeats 1000000 in
theorem debtorBeside_any (D : Option Addr) (cd B : Nat) (d : List Int) (q : Int) (w : World) (hd : d.length ≤ 1048576) (hS : IntS w B D d) :
    Calls Try.prog 126 #[.slice D d.length cd, .int .i64 q] w fun e w' => e = .returned (.int .i64 (debtor d q)) ∧ w' = w := by
  have HS := Lib.hid hS
  clear hS
  go_enter Try.func126, Try.ntmps126
  go_wp2
  go_loopw [9, 5, 6] (fun i _ _ wr => ∃ k : Nat, k ≤ d.length ∧ i = .int .i64 k ∧ (∀ j, j < k → debtAt d q j = false) ∧ wr = w) (fun i _ _ _ => d.length - (intOf i).toNat)
  case atStart => exact ⟨0, Nat.zero_le _, rfl, fun j hj => absurd hj (by omega), rfl⟩
  case round =>
    obtain ⟨k, hk, rfl, hno, rfl⟩ := hrel
    have HN := Lib.hid hno
    clear hno
    by_cases hlt : k < d.length
    · obtain ⟨b1, o1, x, rfl, hb1, he, hc0⟩ := HS.out.at_ hlt
      have hi0 : (0 : Int) ≤ (k : Int) := Int.natCast_nonneg _
      have hi1 : (k : Int) < (d.length : Int) := by omega
      have hD : debtAt d q k = (!decide ((k : Int) = q) && decide (x < 0)) := by simp [debtAt, List.getD, he]
      have HX := Lib.hid (isDebtB x wr)
      clear he
      by_cases hq : (k : Int) = q
      · have t1 : ((k : Int) != q) = false := by simp [hq]
        have HN2 : Hid (∀ j, j < k + 1 → debtAt d q j = false) := Lib.hid (fun j hj => by
          by_cases e : j = k
          · rw [e, hD]; simp [hq]
          · exact HN.out j (by omega))
        clear hD hq
        go_wp2
        exact ⟨⟨k + 1, by omega, by go_num, HN2.out, by trivial⟩, by simp [intOf]; omega⟩
      · have t1 : ((k : Int) != q) = true := by simp [hq]
        by_cases hx : x < 0
        · have t2 : decide (x < 0) = true := decide_eq_true hx
          have HR := Lib.hid (debtor_some hlt (by rw [hD]; simp [hq, hx]) HN.out).1
          rw [t2] at HX
          clear hD hq hx
          go_wp2_with fail
          refine HX.out.mono ?_
          rintro e w' ⟨rfl, rfl⟩
          go_wp2
          go_ret
          exact ⟨by rw [HR.out]; rfl, rfl⟩
        · have t2 : decide (x < 0) = false := decide_eq_false hx
          have HN2 : Hid (∀ j, j < k + 1 → debtAt d q j = false) := Lib.hid (fun j hj => by
            by_cases e : j = k
            · rw [e, hD]; simp [t2]
            · exact HN.out j (by omega))
          rw [t2] at HX
          clear hD hq hx
          go_wp2_with fail
          refine HX.out.mono ?_
          rintro e w' ⟨rfl, rfl⟩
          go_wp2
          exact ⟨⟨k + 1, by omega, by go_num, HN2.out, by trivial⟩, by simp [intOf]; omega⟩
    · have HR := Lib.hid (debtor_none (fun v hv => HN.out v (by omega))).1
      go_wp2
      go_ret
      exact ⟨by rw [HR.out]; rfl, rfl⟩
set_option maxRecDepth 100000 in
set_option maxHeartbeats 1000000 in
theorem l05Debt_any (D : Option Addr) (cd B : Nat) (d : List Int) (q : Int) (w : World) (hd : d.length ≤ 1048576) (hS : IntS w B D d) :
    Calls Try.prog 115 #[.slice D d.length cd, .int .i64 q] w fun e w' => e = .returned (.bool (hasDebt d q)) ∧ w' = w := by
  have HS := Lib.hid hS
  clear hS
  go_enter Try.func115, Try.ntmps115
  go_wp2
  go_loopw [9, 5, 6] (fun i _ _ wr => ∃ k : Nat, k ≤ d.length ∧ i = .int .i64 k ∧ (∀ j, j < k → debtAt d q j = false) ∧ wr = w) (fun i _ _ _ => d.length - (intOf i).toNat)
  case atStart => exact ⟨0, Nat.zero_le _, rfl, fun j hj => absurd hj (by omega), rfl⟩
  case round =>
    obtain ⟨k, hk, rfl, hno, rfl⟩ := hrel
    have HN := Lib.hid hno
    clear hno
    by_cases hlt : k < d.length
    · obtain ⟨b1, o1, x, rfl, hb1, he, hc0⟩ := HS.out.at_ hlt
      have hi0 : (0 : Int) ≤ (k : Int) := Int.natCast_nonneg _
      have hi1 : (k : Int) < (d.length : Int) := by omega
      have hD : debtAt d q k = (!decide ((k : Int) = q) && decide (x < 0)) := by simp [debtAt, List.getD, he]
      clear he
      by_cases hq : (k : Int) = q
      · have t1 : ((k : Int) != q) = false := by simp [hq]
        have HN2 : Hid (∀ j, j < k + 1 → debtAt d q j = false) := Lib.hid (fun j hj => by
          by_cases e : j = k
          · rw [e, hD]; simp [hq]
          · exact HN.out j (by omega))
        clear hD hq
        go_wp2
        exact ⟨⟨k + 1, by omega, by go_num, HN2.out, by trivial⟩, by simp [intOf]; omega⟩
      · have t1 : ((k : Int) != q) = true := by simp [hq]
        by_cases hx : x < 0
        · have t2 : decide (x < 0) = true := decide_eq_true hx
          have HR := Lib.hid (debtor_some hlt (by rw [hD]; simp [hq, hx]) HN.out).2
          clear hD hq hx
          go_wp2
          go_ret
          exact ⟨ret_boolE HR.out.symm, rfl⟩
        · have t2 : decide (x < 0) = false := decide_eq_false hx
          have HN2 : Hid (∀ j, j < k + 1 → debtAt d q j = false) := Lib.hid (fun j hj => by
            by_cases e : j = k
            · rw [e, hD]; simp [t2]
            · exact HN.out j (by omega))
          clear hD hq hx
          go_wp2
          exact ⟨⟨k + 1, by omega, by go_num, HN2.out, by trivial⟩, by simp [intOf]; omega⟩
    · have HR := Lib.hid (debtor_none (fun v hv => HN.out v (by omega))).2
      go_wp2
      go_ret
      exact ⟨ret_boolE HR.out.symm, rfl⟩
theorem sparedL_snoc (M : Nat) (ord : List Int) : sparedL (M + 1) ord = sparedL M ord ++ if inL ord (M : Int) = true then [] else [(M : Int)] := by
  unfold sparedL
  rw [List.range_succ, List.filter_append, List.map_append]
  congr 1
  cases h : inL ord (M : Int) <;> simp [h]
theorem sparedL_len (M : Nat) (ord : List Int) : (sparedL M ord).length ≤ M := by
  unfold sparedL
  rw [List.length_map]
  have := List.length_filter_le (fun (v : Nat) => !inL ord (v : Int)) (List.range M)
  simpa using this
theorem sparedL_mem {M : Nat} {ord : List Int} {x : Int} : x ∈ sparedL M ord ↔ 0 ≤ x ∧ x < (M : Int) ∧ ¬ x ∈ ord := by
  unfold sparedL
  simp only [List.mem_map, List.mem_filter, List.mem_range, inL, Bool.not_eq_true', decide_eq_false_iff_not]
  constructor
  · rintro ⟨v, ⟨h1, h2⟩, rfl⟩
    exact ⟨by omega, by omega, h2⟩
  · rintro ⟨h1, h2, h3⟩
    exact ⟨x.toNat, ⟨by omega, by rw [show ((x.toNat : Nat) : Int) = x by omega]; exact h3⟩, by omega⟩
theorem sparedL_nodup (M : Nat) (ord : List Int) : (sparedL M ord).Nodup := by
  unfold sparedL
  rw [List.nodup_iff_pairwise_ne, List.pairwise_map]
  exact List.Pairwise.imp (fun {a b} h => by omega) (List.nodup_iff_pairwise_ne.1 (List.nodup_range.sublist (List.filter_sublist)))
set_option maxRecDepth 100000 in
set_option maxHeartbeats 2000000 in
theorem spared_any (B base pf gh ch pb M : Nat) (ord : List Int) (h : Nat → Int) (w : World) (hM : M ≤ 6) (ho : ord.length ≤ 6) (h0 : 0 < ord.length) (hZ : Blaze w B base pf gh ch pb M ord h) :
    Calls Try.prog 130 #[.pointer (some ⟨pf, 0, none⟩)] w (GivesInts w (sparedL M ord)) := by
  obtain ⟨i0, hi, hz0, hz1, hz2⟩ := info_parts intInfo
  obtain ⟨O, co, hbx, _⟩ := hZ.box
  have q2 : w.cell? ⟨pf, 2, none⟩ = some (.slice (some ⟨gh, 0, none⟩) M ch) := by rw [hbx.cell]; rfl
  have HB := fun (v : Int) (w' : World) (hb : Below w.heap.size w w') => Lib.hid (burns_any B base pf gh ch pb M ord h v w' ho h0 (hZ.below hb))
  clear hZ hbx
  go_enter Try.func130, Try.ntmps130
  go_wp2
  go_loopw [3, 4, 10] (fun s _ i wr => ∃ (k : Nat) (A3 : Option Addr) (c3 : Nat), k ≤ M ∧ i = .int .i64 k ∧ s = .slice A3 (sparedL k ord).length c3 ∧ wr.ownsRow w.heap.size 3 1 (.slice A3 (sparedL k ord).length c3) (sparedL k ord).length (intCells (sparedL k ord)) ∧ Below w.heap.size w wr) (fun _ _ i _ => M - (intOf i).toNat)
  case atStart => exact ⟨0, none, 0, Nat.zero_le _, rfl, rfl, ⟨rfl, .inl ⟨rfl, rfl⟩⟩, Below.refl _ _⟩
  case round =>
    obtain ⟨k, A3, c3, hk, rfl, rfl, hown, hb⟩ := hrel
    have HO := Lib.hid hown
    have HBW := Lib.hid hb
    have hsl := sparedL_len k ord
    have hws := hb.size
    clear hown hb q2
    obtain ⟨sk, hsk⟩ : ∃ x, x = sparedL k ord := ⟨_, rfl⟩
    rw [← hsk] at HO hsl ⊢
    have HQ := Lib.hid hsk
    clear hsk
    by_cases hlt : k < M
    · have hi0 : (0 : Int) ≤ (k : Int) := Int.natCast_nonneg _
      have hi1 : (k : Int) < (M : Int) := by omega
      have HX := HB (k : Int) wr HBW.out
      cases hc : inL ord (k : Int) with
      | true =>
        rw [hc] at HX
        have HN := Lib.hid (show sparedL (k + 1) ord = sk by rw [sparedL_snoc, if_pos hc, HQ.out]; simp)
        clear hc
        go_wp2_with fail
        refine HX.out.mono ?_
        rintro e w' ⟨rfl, rfl⟩
        go_wp2
        exact ⟨⟨k + 1, A3, c3, by omega, by go_num, by rw [HN.out], by rw [HN.out]; exact HO.out, HBW.out⟩, by simp [intOf]; omega⟩
      | false =>
        rw [hc] at HX
        have HN := Lib.hid (show sparedL (k + 1) ord = sk ++ [(k : Int)] by rw [sparedL_snoc, if_neg (by rw [hc]; decide), HQ.out])
        have OW := Lib.hid (own_below HO.out ((Below.refl _ _).alloc (Nat.le_refl _) (.cells #[.int .i64 (k : Int)] 3)))
        clear hc
        go_wp2_with (first
          | (go_at_call 143; refine HX.out.mono ?_; rintro e w' ⟨rfl, rfl⟩)
          | (at_builtin; refine wpList_append_own _ rfl _ _ 27 rfl w.heap.size 3 i0 (.int .i64 0) 1 8 Try.underlying27 hi hz0 hz1 hz2 rfl (by decide) _ _ _ rfl OW.out ⟨_, 0, none⟩ 1 1 [.int .i64 (k : Int)] rfl rfl ?k1 ?k2 ?k3 ?k4 ?k5 ?_))
        case k1 => exact one_cell _ _ (by simp) _ _
        case k2 => simp [Value.oneCell']
        case k3 => unfold maxLen; omega
        case k4 => omega
        case k5 => simp; omega
        intro v' w3 hown' hgrow _
        have hown2 : w3.ownsRow w.heap.size 3 1 v' (sk.length + 1) (intCells (sk ++ [(k : Int)])) := by rw [← cells_snoc]; exact hown'
        obtain ⟨A8, c8, hv8, hlen⟩ := own_slice hown2
        rw [hlen] at hown2
        have hol3 : Below w.heap.size w w3 := (HBW.out.alloc (by omega) (.cells #[.int .i64 (k : Int)] 3)).grown hgrow (by simp; omega) (fun q hq => (OW.out.lt q hq).1)
        subst hv8
        rw [← HN.out] at hown2
        have HO4 := Lib.hid hown2
        have HL4 := Lib.hid (congrArg List.length HN.out)
        have HB4 := Lib.hid hol3
        clear hown' hown2 hgrow hol3 hlen
        go_wp2
        exact ⟨⟨k + 1, A8, c8, by omega, by go_num, by rw [HL4.out], HO4.out, HB4.out⟩, by simp [intOf]; omega⟩
    · have HN := Lib.hid (show sk = sparedL M ord by rw [HQ.out, show k = M by omega])
      go_wp2
      go_ret
      exact ⟨A3, c3, by rw [HN.out]; rfl, by rw [← HN.out]; exact OwnI.of_own HO.out, HBW.out⟩
end Go.Proofs.Ytcfhkaefjhcglaa
