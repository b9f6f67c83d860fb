/- FormatInt: both sides. -/
import Derived.Test.YtbmihbbpdmpmpaaDoorLaw
import Derived.Test.YtbmihbbpdmpmpaaDoorBase
import Derived.RowKit
import Derived.Lib.Hide
import Derived.LoopTactic
import Derived.WalkKit
import Derived.WalkArith
import Derived.RegionTactic
import Derived.ChangeAlike
import Derived.OwnWalk
import Derived.Test.YtbmihbbpdmpmpaaDoorShItoa
import Derived.Test.YtbmihbbpdmpmpaaDoorPar
import Derived.Laws.IdiomStrings
import Derived.Laws.Concat
import Derived.Lib.ItoaLen
import Derived.Lib.ItoaMem
import Derived.Lib.AppendIntMem
import Derived.Deep.RegionHeld3
namespace Go.Proofs.YtbmihbbpdmpmpaaDoor
open Go.RowKit

theorem Blk1 (w : World) (t : TypeId) (v : Value) : (w.alloc (.cells #[v] t)).cell? ⟨w.heap.size, 0, none⟩ = some v := by
  rw [World.cell?_alloc_at _ _ _ _ rfl]; rfl
theorem below_grow_ (w : World) (k : Nat) (os : Array Obj) : Below w.heap.size w (Sort.grow (w.drewN k) os) :=
  ⟨rfl, rfl, rfl, by simp [Sort.grow, World.drewN], fun i hi => by
    show (w.heap ++ os)[i]? = w.heap[i]?
    rw [Array.getElem?_append_left hi]⟩
def dgB (n : Nat) : UInt8 := UInt8.ofNat (48 + n % 10)
theorem dgB_wrap (n : Nat) : IntKind.u8.wrap (48 + ((n % 10 : Nat) : Int)) = ((dgB n).toNat : Int) := by
  have h : n % 10 < 10 := Nat.mod_lt _ (by omega)
  unfold dgB
  have : ∀ x : Nat, x < 10 → IntKind.u8.wrap (48 + (x : Int)) = ((UInt8.ofNat (48 + x)).toNat : Int) := by decide
  exact this _ h
theorem dgB_nat (n : Nat) : 48 + ((n % 10 : Nat) : Int) = ((dgB n).toNat : Int) := by
  have h : n % 10 < 10 := Nat.mod_lt _ (by omega)
  unfold dgB
  have : ∀ x : Nat, x < 10 → 48 + (x : Int) = ((UInt8.ofNat (48 + x)).toNat : Int) := by decide
  exact this _ h
theorem dec_small {n : Nat} (h : n < 10) : Lib.decDigits n = [dgB n] := by
  rw [Lib.decDigits, dif_pos h, dgB, Nat.mod_eq_of_lt h]
theorem dec_step {n : Nat} (h : ¬ n < 10) : Lib.decDigits n = Lib.decDigits (n / 10) ++ [dgB n] := by
  rw [Lib.decDigits, dif_neg h, dgB]
theorem dec_le (n : Nat) (h : n < 18446744073709551616) : (Lib.decDigits n).length ≤ 20 := by
  rw [Lib.decDigits_length]
  exact Lib.nDigits_le20 n h
set_option maxHeartbeats 1000000 in
theorem implFormat (n : Int) (w : World) (h0 : -9223372036854775808 ≤ n) (h1 : n ≤ 9223372036854775807) (htab : Lib.TabIs Tryd.prog w "internal/strconv.uint64pow10" .u64 Lib.pow10Tab) :
    Calls Tryd.prog 7 #[.int .i64 n] w fun e w' => e = .returned (.string (numeral n)) ∧ Below w.heap.size w w' := by
  have HC := Lib.hid (Tryd.strconv_Itoa n h0 h1 w htab)
  clear htab
  go_enter Tryd.func7, Tryd.ntmps7
  go_wp2_with fail
  refine HC.out.mono ?_
  rintro e w1 ⟨rfl, k, os, rfl⟩
  have HB := Lib.hid (below_grow_ w k os)
  obtain ⟨w2, hw2⟩ : ∃ w2, w2 = Sort.grow (w.drewN k) os := ⟨_, rfl⟩
  rw [← hw2] at HB ⊢
  clear hw2
  go_wp2
  go_ret
  exact ⟨rfl, HB.out⟩
set_option maxRecDepth 100000 in
set_option maxHeartbeats 2000000 in
theorem specFormatP (m : Nat) (w : World) (hm : m ≤ 9223372036854775807) :
    Calls Tryd.prog 6 #[.int .i64 (m : Int)] w fun e w' => e = .returned (.string (numeral m)) ∧ Below w.heap.size w w' := by
  have hlen := dec_le m (by omega)
  go_enter Tryd.func6, Tryd.ntmps6
  have hm0 : (0 : Int) ≤ (m : Int) := Int.natCast_nonneg _
  go_wp2
  go_loopw [0, 3] (fun x s wr => ∃ (j : Nat) (b : ByteArray), j ≤ m ∧ x = .int .i64 j ∧ s = .string b ∧ Lib.decDigits m = Lib.decDigits j ++ b.data.toList ∧ Below w.heap.size w wr) (fun x _ _ => (intOf x).toNat)
  case atStart => exact ⟨m, ⟨#[]⟩, Nat.le_refl _, rfl, rfl, by simp, Below.refl _ _⟩
  case round =>
    obtain ⟨j, b, hj, rfl, rfl, hd, hb⟩ := hrel
    have hbl : b.size ≤ 20 := by
      have h2 := congrArg List.length hd
      rw [List.length_append] at h2
      have : b.data.toList.length = b.size := Array.length_toList
      omega
    have HD := Lib.hid hd
    clear hd
    have hj0 : (0 : Int) ≤ (j : Int) := Int.natCast_nonneg _
    have hjm : (j : Int) ≤ 9223372036854775807 := by omega
    have e1 := dgB_wrap j
    have hnew := Blk1 wr 5 (.int .u8 ((dgB j).toNat : Int))
    have hcv : (convert 27 9 (.slice (some ⟨wr.heap.size, 0, none⟩) 1 1)).run Tryd.prog (wr.alloc (.cells #[.int .u8 ((dgB j).toNat : Int)] 5)) = .ok (.string ⟨#[dgB j]⟩) (wr.alloc (.cells #[.int .u8 ((dgB j).toNat : Int)] 5)) := run_convert_bytes_back (P := Tryd.prog) (wr.alloc (.cells #[.int .u8 ((dgB j).toNat : Int)] 5)) 27 9 5 ⟨wr.heap.size, 0, none⟩ 1 [dgB j] Tryd.underlying27 Tryd.underlying5 Tryd.underlying9 (fun i hi => by
      obtain rfl : i = 0 := by simp at hi; omega
      exact hnew)
    have hb2 : Below w.heap.size w (wr.alloc (.cells #[.int .u8 ((dgB j).toNat : Int)] 5)) := hb.alloc hb.size _
    have hcat : (⟨#[dgB j]⟩ ++ b : ByteArray).data.toList = dgB j :: b.data.toList := by simp [ByteArray.data_append]
    have hcs : (⟨#[dgB j]⟩ ++ b : ByteArray).size = b.size + 1 := by simp [ByteArray.size_append, Nat.add_comm]; rfl
    have HB2 := Lib.hid hb2
    have HCAT := Lib.hid hcat
    have HCS := Lib.hid hcs
    clear hnew hb2 hcat hcs
    by_cases hj9 : j < 10
    · have h9 : ¬ (9 : Int) < (j : Int) := by omega
      have HR := Lib.hid (show (⟨#[dgB j]⟩ ++ b : ByteArray) = numeral m from WideShapes.bytes_inj (by
        rw [HCAT.out]
        show _ = (Lib.itoa (m : Int)).toArray.toList
        rw [Lib.itoa_nonneg, List.toList_toArray, HD.out, dec_small hj9]
        rfl))
      rw [Nat.mod_eq_of_lt hj9] at e1
      clear hj9
      go_wp2
      go_ret
      exact ⟨by rw [HR.out]; rfl, HB2.out⟩
    · have h9 : (9 : Int) < (j : Int) := by omega
      have HS := Lib.hid (dec_step hj9)
      have HD2 := Lib.hid (show Lib.decDigits m = Lib.decDigits (j / 10) ++ (⟨#[dgB j]⟩ ++ b : ByteArray).data.toList by rw [HCAT.out, HD.out, HS.out, List.append_assoc]; rfl)
      have e2 : 48 + (j : Int) % 10 = ((dgB j).toNat : Int) := by have := dgB_nat j; omega
      clear e1
      clear hj9
      go_wp2
      exact ⟨⟨j / 10, ⟨#[dgB j]⟩ ++ b, by omega, by go_num, rfl, HD2.out, HB2.out⟩, by simp [intOf]; omega⟩
theorem conv_one (c : UInt8) (W : World) : (convert 27 9 (.slice (some ⟨W.heap.size, 0, none⟩) 1 1)).run Tryd.prog (W.alloc (.cells #[.int .u8 (c.toNat : Int)] 5)) = .ok (.string ⟨#[c]⟩) (W.alloc (.cells #[.int .u8 (c.toNat : Int)] 5)) :=
  run_convert_bytes_back (P := Tryd.prog) (W.alloc (.cells #[.int .u8 (c.toNat : Int)] 5)) 27 9 5 ⟨W.heap.size, 0, none⟩ 1 [c] Tryd.underlying27 Tryd.underlying5 Tryd.underlying9 (fun i hi => by
    obtain rfl : i = 0 := by simp at hi; omega
    exact Blk1 _ _ _)
theorem conv_at (c : UInt8) (W : World) (g : Nat) (h : W.cell? ⟨g, 0, none⟩ = some (.int .u8 (c.toNat : Int))) : (convert 27 9 (.slice (some ⟨g, 0, none⟩) 1 1)).run Tryd.prog W = .ok (.string ⟨#[c]⟩) W :=
  run_convert_bytes_back (P := Tryd.prog) W 27 9 5 ⟨g, 0, none⟩ 1 [c] Tryd.underlying27 Tryd.underlying5 Tryd.underlying9 (fun i hi => by
    obtain rfl : i = 0 := by simp at hi; omega
    exact h)
theorem conv_from (c : UInt8) (W w2 : World) (g : Nat) (hb : Below W.heap.size W w2) (hg : g < W.heap.size) (h : W.cell? ⟨g, 0, none⟩ = some (.int .u8 (c.toNat : Int))) : (convert 27 9 (.slice (some ⟨g, 0, none⟩) 1 1)).run Tryd.prog w2 = .ok (.string ⟨#[c]⟩) w2 :=
  conv_at c w2 g ((hb.cell (p := ⟨g, 0, none⟩) hg).trans h)
theorem numeral_size (n : Int) (h0 : -9223372036854775808 ≤ n) (h1 : n ≤ 9223372036854775807) : (numeral n).size ≤ 21 := by
  have := Lib.itoa_length_le n h0 h1
  have e : (numeral n).size = (Lib.itoa n).length := by show (numeral n).size = _; unfold numeral; simp [ByteArray.size]
  omega
set_option maxRecDepth 100000 in
set_option maxHeartbeats 2000000 in
theorem specFormatN : ∀ (k u : Nat), u ≤ k → 1 ≤ u → u ≤ 9223372036854775808 → ∀ (n : Int) (w : World), n = -(u : Int) →
    Calls Tryd.prog 6 #[.int .i64 n] w fun e w' => e = .returned (.string (numeral n)) ∧ Below w.heap.size w w' := by
  intro k
  induction k with
  | zero => intro u h1 h2; omega
  | succ k ih =>
    intro u huk hu1 hu2 n w hn
    have HN := Lib.hid hn
    have hneg : n < 0 := by omega
    have hlo : -9223372036854775808 ≤ n := by omega
    have htd : n.tdiv 10 = -((u / 10 : Nat) : Int) := by rw [hn, Int.neg_tdiv]; rfl
    have htm : n.tmod 10 = -((u % 10 : Nat) : Int) := by rw [hn, Int.neg_tmod]; rfl
    have HIT := Lib.hid (show Lib.itoa n = 45 :: Lib.decDigits u by rw [hn, Lib.itoa_neg u hu1])
    by_cases h10 : u < 10
    · have tq : (n.tdiv 10 == 0) = true := by rw [htd, Nat.div_eq_of_lt h10]; rfl
      have e2 : 48 - n = ((dgB u).toNat : Int) := by have := dgB_nat u; rw [Nat.mod_eq_of_lt h10] at this; omega
      have hn9 : -9 ≤ n := by omega
      have hcv := conv_one (dgB u) w
      have HR := Lib.hid (show (⟨#[45]⟩ ++ ⟨#[dgB u]⟩ : ByteArray) = numeral n from WideShapes.bytes_inj (by
        show _ = (Lib.itoa n).toArray.toList
        rw [HIT.out, dec_small h10]
        rfl))
      clear hn htd htm ih h10
      go_enter Tryd.func6, Tryd.ntmps6
      go_wp2
      go_ret
      exact ⟨by rw [← HR.out]; rfl, (Below.refl _ _).alloc (Nat.le_refl _) _⟩
    · have tq : (n.tdiv 10 == 0) = false := by rw [htd]; simp; omega
      have IH := fun w => Lib.hid (ih (u / 10) (by omega) (by omega) (by omega) (n.tdiv 10) w htd)
      have hqs := numeral_size (n.tdiv 10) (by rw [htd]; omega) (by rw [htd]; omega)
      have z1 : IntKind.i64.wrap (n.tdiv 10) = n.tdiv 10 := by rw [htd, IntKind.wrap_i64]; omega
      have z2 : IntKind.i64.wrap (48 - n.tmod 10) = 48 - n.tmod 10 := by rw [htm, IntKind.wrap_i64]; omega
      have z3 : IntKind.u8.wrap (48 - n.tmod 10) = ((dgB u).toNat : Int) := by
        rw [htm, show (48 : Int) - -((u % 10 : Nat) : Int) = 48 + ((u % 10 : Nat) : Int) by omega]
        exact dgB_wrap u
      have HR := Lib.hid (show (numeral (n.tdiv 10) ++ ⟨#[dgB u]⟩ : ByteArray) = numeral n from WideShapes.bytes_inj (by
        show _ = (Lib.itoa n).toArray.toList
        rw [HIT.out, dec_step h10, ByteArray.data_append]
        show ((Lib.itoa (n.tdiv 10)).toArray ++ #[dgB u]).toList = _
        rw [htd, Lib.itoa_neg (u / 10) (by omega)]
        simp))
      obtain ⟨q, hq⟩ : ∃ q, q = numeral (n.tdiv 10) := ⟨_, rfl⟩
      rw [← hq] at IH HR hqs
      clear hn htd htm ih h10 hq
      go_enter Tryd.func6, Tryd.ntmps6
      go_wp2_with fail
      have cA : ((w.alloc (Obj.cells #[.int .u8 ((dgB u).toNat : Int)] 5)).drew).cell? ⟨w.heap.size, 0, none⟩ = some (.int .u8 ((dgB u).toNat : Int)) := Blk1 w _ _
      have cB : (w.drew.alloc (Obj.cells #[.int .u8 ((dgB u).toNat : Int)] 5)).cell? ⟨w.heap.size, 0, none⟩ = some (.int .u8 ((dgB u).toNat : Int)) := Blk1 w.drew _ _
      have sA : w.heap.size < ((w.alloc (Obj.cells #[.int .u8 ((dgB u).toNat : Int)] 5)).drew).heap.size := by simp
      have sB : w.heap.size < (w.drew.alloc (Obj.cells #[.int .u8 ((dgB u).toNat : Int)] 5)).heap.size := by simp
      have hcA := conv_at (dgB u) _ w.heap.size cA
      have hcB := conv_at (dgB u) _ w.heap.size cB
      have hcC := conv_one (dgB u)
      have hadd : ∀ W : World, (Op.stringOp .add q ⟨#[dgB u]⟩).run Tryd.prog W = .ok (.string (q ++ ⟨#[dgB u]⟩)) W := fun W => run_string_add_sum W q _ (by have h1 : (⟨#[dgB u]⟩ : ByteArray).size = 1 := rfl; omega)
      have CA := Lib.hid cA
      have CB := Lib.hid cB
      clear cA cB
      go_region_law (first
        | (go_simp
           go_at_call 6
           refine (IH _).out.mono ?_
           rintro e w2 ⟨rfl, hb2⟩
           first
             | (have hcv := conv_from (dgB u) _ _ _ hb2 sA CA.out)
             | (have hcv := conv_from (dgB u) _ _ _ hb2 sB CB.out)
             | (have hcv : True := trivial)))
      all_goals
        first
          | (have hb3 : Below w.heap.size w w2 := (Below.refl w.heap.size w).drew.trans hb2)
          | (have hb3 : Below w.heap.size w w2 := (((Below.refl w.heap.size w).alloc (Nat.le_refl _) (Obj.cells #[.int .u8 ((dgB u).toNat : Int)] 5)).drew).trans (hb2.mono (Nat.le_of_lt sA)))
          | (have hb3 : Below w.heap.size w w2 := ((Below.refl w.heap.size w).drew.alloc (Nat.le_refl _) (Obj.cells #[.int .u8 ((dgB u).toNat : Int)] 5)).trans (hb2.mono (Nat.le_of_lt sB)))
        clear hb2 hcv hcA hcB hcC hadd sA sB
        go_wp2
        go_ret
        first
          | exact ⟨by rw [← HR.out]; rfl, hb3⟩
          | exact ⟨by rw [← HR.out]; rfl, hb3.alloc hb3.size _⟩
          | exact ⟨by rw [← HR.out]; rfl, (hb3.alloc hb3.size _).drew⟩
theorem specFormat (n : Int) (w : World) (h0 : -9223372036854775808 ≤ n) (h1 : n ≤ 9223372036854775807) :
    Calls Tryd.prog 6 #[.int .i64 n] w fun e w' => e = .returned (.string (numeral n)) ∧ Below w.heap.size w w' := by
  by_cases h : 0 ≤ n
  · obtain ⟨m, rfl⟩ : ∃ m : Nat, n = (m : Int) := ⟨n.toNat, by omega⟩
    exact specFormatP m w (by omega)
  · exact specFormatN n.natAbs n.natAbs (Nat.le_refl _) (by omega) (by omega) n w (by omega)
set_option maxHeartbeats 1000000 in
theorem lawFormatInt (n : Int) (w : World) (h0 : -9223372036854775808 ≤ n) (h1 : n ≤ 9223372036854775807) (htab : Lib.TabIs Tryd.prog w "internal/strconv.uint64pow10" .u64 Lib.pow10Tab) :
    Calls Tryd.prog 3 #[.int .i64 n] w fun e w' => e = .returned (.bool true) ∧ Below w.heap.size w w' := by
  have HT := Lib.hid (Lib.tabBelow_of_tabIs htab)
  have HS := Lib.hid (specFormat n w h0 h1)
  have HI := fun w h => Lib.hid (implFormat n w h0 h1 h)
  obtain ⟨q, hq⟩ : ∃ q, q = numeral n := ⟨_, rfl⟩
  rw [← hq] at HS HI
  clear htab hq
  go_enter Tryd.func3, Tryd.ntmps3
  go_wp2_with fail
  refine HS.out.mono ?_
  rintro e w1 ⟨rfl, hb1⟩
  have HT1 := Lib.hid (HT.out w1 hb1)
  go_wp2_with fail
  refine (HI _ HT1.out).out.mono ?_
  rintro e w2 ⟨rfl, hb2⟩
  have hb3 := hb1.trans (hb2.mono hb1.size)
  have hne : (!q.toList == q.toList) = false := by simp
  clear hb1 hb2
  go_wp2
  go_ret
  exact ⟨rfl, hb3⟩
end Go.Proofs.YtbmihbbpdmpmpaaDoor
