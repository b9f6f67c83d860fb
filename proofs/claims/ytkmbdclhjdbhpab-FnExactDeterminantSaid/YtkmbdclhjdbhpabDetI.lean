/- The program's minors: minorsOfNoRows and minorsWithRow. -/
import Derived.Test.YtkmbdclhjdbhpabDetB
import Derived.Test.YtkmbdclhjdbhpabOnes
import Derived.Test.YtkmbdclhjdbhpabFireM
import Derived.Test.YtkmbdclhjdbhpabKeep
namespace Go.Proofs.Ytkmbdclhjdbhpab
open Go.RowKit

theorem wrap_mul (a e b : Int) : wrap64 (wrap64 a + wrap64 (e * wrap64 b)) = wrap64 (a + e * b) := by
  obtain ⟨k, hk⟩ : ∃ k : Int, wrap64 b = b + 18446744073709551616 * k := ⟨-((b + 9223372036854775808) / 18446744073709551616), by unfold wrap64; omega⟩
  rw [hk, Int.mul_add]
  have h : e * (18446744073709551616 * k) = 18446744073709551616 * (e * k) := by rw [Int.mul_left_comm]
  rw [h]
  generalize e * k = m
  generalize e * b = q
  unfold wrap64
  omega
/-- what has come to the set T once all sets below S, and of S the columns below c, are through -/
def part2 (r A : Nat → Int) (n S c T : Nat) : Int := sumN S (fun S' => sumN n fun c' => gives r A T S' c') + sumN c fun c' => gives r A T S c'
theorem part2_zero (r A : Nat → Int) (n : Nat) : part2 r A n 0 0 = fun _ => 0 := by funext T; simp [part2, sumN]
theorem part2_next (r A : Nat → Int) (n S : Nat) : part2 r A n S n = part2 r A n (S + 1) 0 := by
  funext T
  simp only [part2, sumN]
  omega
theorem part2_skip {r A : Nat → Int} {n S c : Nat} (h : S.testBit c = true) : part2 r A n S (c + 1) = part2 r A n S c := by
  funext T
  simp only [part2, sumN]
  rw [gives, if_neg (by rw [h]; simp)]
  omega
theorem part2_add {r A : Nat → Int} {n S c : Nat} (h : S.testBit c = false) : part2 r A n S (c + 1) = addAt (part2 r A n S c) (S ||| (1 <<< c)) (sgn (ones (S >>> c)) * r c * A S) := by
  funext T
  simp only [part2, sumN, addAt, gives]
  by_cases e : T = S ||| (1 <<< c)
  · rw [if_pos ⟨h, e.symm⟩, if_pos e]
    omega
  · rw [if_neg (fun q => e q.2.symm), if_neg e]
    omega
theorem part2_all (r : Nat → Int) (R : List (Nat → Int)) {n : Nat} (hn : n ≤ 6) : chipsOf (2 ^ n) (part2 r (minorA n R) n (2 ^ n) 0) = chipsOf (2 ^ n) (minorA n (r :: R)) := chipsOf_eq fun T hT => by
  rw [part2, ← minorA_step r R hn hT]
  simp [sumN]
theorem bit_test : ∀ S : Nat, S < 64 → ∀ c : Nat, c < 6 → (bits BinOp.and IntKind.i64 ((S : Int) / 2 ^ c) 1 == 1) = S.testBit c := by decide +kernel
theorem bit_shift : ∀ S : Nat, S < 64 → ∀ c : Nat, c < 6 → IntKind.u64.wrap ((S : Int) / 2 ^ c) = ((S >>> c : Nat) : Int) := by decide +kernel
theorem bit_or : ∀ S : Nat, S < 64 → ∀ c : Nat, c < 6 → bits BinOp.or IntKind.i64 (S : Int) (wrap64 (2 ^ c)) = ((S ||| (1 <<< c) : Nat) : Int) := by decide +kernel
theorem shift_lt : ∀ S : Nat, S < 64 → ∀ c : Nat, c < 6 → S >>> c < 64 := by decide +kernel
theorem ones_le : ∀ S : Nat, S < 64 → ones S ≤ 6 := by decide +kernel
set_option maxRecDepth 100000 in
set_option maxHeartbeats 2000000 in
theorem withRow_any (n : Nat) (A C : Option Addr) (ca cc : Nat) (R : List (Nat → Int)) (row : List Int) (w : World) (hn : n ≤ 6) (hl : row.length = n) (hr : ∀ x ∈ row, -500 ≤ x ∧ x ≤ 500)
    (hS : IntS w w.heap.size A (chipsOf (2 ^ n) (minorA n R))) (hT : IntS w w.heap.size C row) :
    Calls Try.prog 75 #[.slice A (2 ^ n : Nat) ca, .slice C row.length cc] w (GivesInts w (chipsOf (2 ^ n) (minorA n ((fun c => row.getD c 0) :: R)))) := by
  obtain ⟨K, hK⟩ : ∃ K, K = 2 ^ n := ⟨_, rfl⟩
  have hK64 : K ≤ 64 := by rw [hK]; exact Nat.pow_le_pow_right (by omega) hn
  have HK := Lib.hid hK
  have HAL := Lib.hid (part2_all (fun c => row.getD c 0) R hn)
  obtain ⟨M, hM⟩ : ∃ M, M = minorA n R := ⟨_, rfl⟩
  rw [← hK] at hS HAL ⊢
  rw [← hM] at hS HAL
  rw [← HAL.out]
  have hmk := make_ints K (by omega)
  have HS := Lib.hid hS
  have HT := Lib.hid hT
  have HR := Lib.hid hr
  have HL := Lib.hid hl
  have hl6 : row.length ≤ 6 := by omega
  have HLC := Lib.hid (chipsOf_len K M)
  clear hS hT hr hl hM hK HAL
  go_enter Try.func75, Try.ntmps75
  go_wp2
  go_loopw [16] (fun i wr => ∃ S : Nat, S ≤ K ∧ i = .int .i64 S ∧ Blk wr w.heap.size 3 (intCells (chipsOf K (part2 (fun c => row.getD c 0) M n S 0))).toArray ∧ Below w.heap.size w wr) (fun i _ => K - (intOf i).toNat)
  case atStart =>
    refine ⟨0, Nat.zero_le _, rfl, ?_, (Below.refl _ _).alloc (Nat.le_refl _) _⟩
    have e : chipsOf K (part2 (fun c => row.getD c 0) M n 0 0) = List.replicate K 0 := by
      rw [part2_zero]
      apply List.ext_getElem?
      intro i
      by_cases hi : i < K
      · rw [chipsOf_at _ hi, List.getElem?_replicate, if_pos hi, wrap64_of (by omega) (by omega)]
      · rw [List.getElem?_eq_none (by rw [chipsOf_len]; omega), List.getElem?_eq_none (by simp; omega)]
    rw [e]
    exact Blk.new w _ _
  case round =>
    obtain ⟨S, hSK, rfl, hblk, hb⟩ := hrel
    have HB := Lib.hid hblk
    clear hblk hmk
    by_cases hlt : S < K
    · obtain ⟨b1, o1, m, rfl, hb1, hm, hc0⟩ := (HS.out.below hb).at_ (k := S) (by rw [HLC.out]; exact hlt)
      rw [chipsOf_at _ hlt] at hm
      injection hm with hm
      subst hm
      have hS0 : (0 : Int) ≤ (S : Int) := Int.natCast_nonneg _
      have hS1 : (S : Int) < (K : Int) := by omega
      have hbw := hb.size
      obtain ⟨wo, rfl⟩ : ∃ wo, wo = wr := ⟨_, rfl⟩
      go_wp2
      go_loopw [23] (fun i wr => ∃ c : Nat, c ≤ row.length ∧ i = .int .i64 c ∧ Blk wr w.heap.size 3 (intCells (chipsOf K (part2 (fun c => row.getD c 0) M n S c))).toArray ∧ Below w.heap.size w wr) (fun i _ => row.length - (intOf i).toNat)
      case atStart => exact ⟨0, Nat.zero_le _, rfl, HB.out, hb⟩
      case round =>
        obtain ⟨c, hc, rfl, hblk2, hb2⟩ := hrel
        have HB2 := Lib.hid hblk2
        clear hblk2
        by_cases hlt2 : c < row.length
        · obtain ⟨b2, o2, x, rfl, hb3, hx, hd0⟩ := (HT.out.below hb2).at_ hlt2
          have hc0' : (0 : Int) ≤ (c : Int) := Int.natCast_nonneg _
          have hc1 : (c : Int) < (row.length : Int) := by omega
          have hxr := HR.out x (List.mem_of_getElem? hx)
          have hS64 : S < 64 := by omega
          have hc6 : c < 6 := by omega
          have hbt := bit_test S hS64 c hc6
          have harg := bit_shift S hS64 c hc6
          cases hsb : S.testBit c with
          | true =>
            rw [hsb] at hbt
            have hC := HB2.out
            rw [← part2_skip (r := fun c => row.getD c 0) (A := M) (n := n) hsb] at hC
            have HC := Lib.hid hC
            clear hC hsb harg hx
            go_wp2
            exact ⟨⟨c + 1, by omega, by go_num, HC.out, hb2⟩, by simp [intOf]; omega⟩
          | false =>
            rw [hsb] at hbt
            have hk64 := shift_lt S hS64 c hc6
            have hk6 := ones_le _ hk64
            obtain ⟨k, hk⟩ : ∃ k, k = S >>> c := ⟨_, rfl⟩
            obtain ⟨o, ho⟩ : ∃ o, o = ones k := ⟨_, rfl⟩
            rw [← hk] at harg hk64 hk6
            rw [← ho] at hk6
            have HK1 := Lib.hid hk
            have HO1 := Lib.hid ho
            have HON := fun w => Lib.hid (onesU k hk64 w)
            rw [← ho] at HON
            clear hk ho
            go_wp2_with fail
            refine (HON _).out.mono ?_
            rintro e w' ⟨rfl, rfl⟩
            have hTK := bit_lt n hn S (by have := HK.out; omega) c (by have := HL.out; omega)
            have hor := bit_or S hS64 c hc6
            have hadd := part2_add (r := fun c => row.getD c 0) (A := M) (n := n) hsb
            obtain ⟨T, hT⟩ : ∃ T, T = S ||| (1 <<< c) := ⟨_, rfl⟩
            rw [← hT] at hTK hor hadd
            have hTK2 : T < K := by have := HK.out; omega
            have hgd : row.getD c 0 = x := by simp [List.getD, hx]
            rw [← HK1.out, ← HO1.out, hgd] at hadd
            obtain ⟨f, hf⟩ : ∃ f, f = part2 (fun c => row.getD c 0) M n S c := ⟨_, rfl⟩
            have hB2 := HB2.out
            rw [← hf] at hadd hB2
            have hcl : wr.cell? ⟨w.heap.size, T, none⟩ = some (.int .i64 (wrap64 (f T))) := by rw [hB2.cell]; simp [intCells, chipsOf_at f hTK2]
            have hfz := hB2.frozen T
            have hT0 : (0 : Int) ≤ (T : Int) := Int.natCast_nonneg _
            have hT1 : (T : Int) < (K : Int) := by omega
            have HADD := Lib.hid hadd
            have HBB := Lib.hid hB2
            have hset : ∀ e : Int, e = sgn o * x → Blk (wr.setCell ⟨w.heap.size, T, none⟩ (.int .i64 (wrap64 (wrap64 (f T) + wrap64 (e * wrap64 (M S)))))) w.heap.size 3 (intCells (chipsOf K (part2 (fun c => row.getD c 0) M n S (c + 1)))).toArray := fun e he => by
              have h2 := HBB.out.set_ T (.int .i64 (wrap64 (wrap64 (f T) + wrap64 (e * wrap64 (M S)))))
              rw [List.setIfInBounds_toArray] at h2
              have e1 : (intCells (chipsOf K f)).set T (.int .i64 (wrap64 (wrap64 (f T) + wrap64 (e * wrap64 (M S))))) = intCells ((chipsOf K f).set T (wrap64 (wrap64 (f T) + wrap64 (e * wrap64 (M S))))) := by simp [intCells, List.map_set]
              rw [e1, chipsOf_set K f T _ (sgn o * x * M S) (by rw [wrap_mul, he])] at h2
              rw [HADD.out]
              exact h2
            have HSET := Lib.hid hset
            clear hT hTK hTK2 hgd hf hadd hB2 hset hsb hx HB2
            by_cases hodd : o % 2 = 1
            · have t2 : (((o : Nat) : Int) % 2 == 1) = true := by simp; omega
              have HF := Lib.hid (HSET.out (-x) (by rw [sgn, if_neg (by omega)]; omega))
              clear hodd
              go_wp2
              exact ⟨⟨c + 1, by omega, by go_num, HF.out, hb2.setCell (Nat.le_refl _) _⟩, by simp [intOf]; omega⟩
            · have t2 : (((o : Nat) : Int) % 2 == 1) = false := by simp; omega
              have HF := Lib.hid (HSET.out x (by rw [sgn, if_pos (by omega)]; omega))
              clear hodd
              go_wp2
              exact ⟨⟨c + 1, by omega, by go_num, HF.out, hb2.setCell (Nat.le_refl _) _⟩, by simp [intOf]; omega⟩
        · have hC := HB2.out
          rw [show c = n by have := HL.out; omega, part2_next] at hC
          have HC := Lib.hid hC
          clear hC
          go_wp2
          exact ⟨⟨S + 1, by omega, by go_num, HC.out, hb2⟩, by simp [intOf]; omega⟩
    · have HB3 := HB.out
      rw [show S = K by omega] at HB3
      have HB4 := Lib.hid HB3
      have HLL := Lib.hid (chipsOf_len K (part2 (fun c => row.getD c 0) M n K 0))
      clear HB3
      go_wp2
      go_ret
      exact ⟨some ⟨w.heap.size, 0, none⟩, K, by rw [HLL.out]; rfl, OwnI.of_blk HB4.out (Nat.le_refl _), hb⟩
end Go.Proofs.Ytkmbdclhjdbhpab
