/- ParseInt: both sides, and the law's walk. -/
import Derived.Test.YtbmihbbpdmpmpaaDoorFmt
import Derived.Test.YtbmihbbpdmpmpaaDoorDigS
import Derived.Test.YtbmihbbpdmpmpaaDoorShAtoi
import Derived.Lib.AtoiAllCases
import Derived.Lib.AtoiErrMem
namespace Go.Proofs.YtbmihbbpdmpmpaaDoor
open Go.RowKit

/-- what lies behind a sign -/
def tailB (s : ByteArray) : ByteArray := s.extract 1 s.size
theorem dg_iff (c : UInt8) : digB c = true ↔ isDg c := by
  unfold digB isDg
  simp only [Bool.and_eq_true, decide_eq_true_eq]
  omega
/-- an int and a bool are handed back -/
def GivesNum (w : World) (v : Int) (b : Bool) (e : Ending) (w' : World) : Prop := e = .returned (.tuple #[.int .i64 v, .bool b]) ∧ Below w.heap.size w w'
theorem numeral_neg {n : Int} (h : n < 0) : (numeral n).data.toList = 45 :: Lib.decDigits n.natAbs := by
  show (Lib.itoa n).toArray.toList = _
  unfold Lib.itoa
  rw [if_pos h]
theorem numeral_pos {n : Int} (h : ¬ n < 0) : (numeral n).data.toList = Lib.decDigits n.natAbs := by
  show (Lib.itoa n).toArray.toList = _
  unfold Lib.itoa
  rw [if_neg h, List.toList_toArray]
  congr 1
  omega
theorem digits_dec (u : Nat) : digitsB (Lib.decDigits u) = true := by
  unfold digitsB
  rw [Bool.and_eq_true]
  refine ⟨List.all_eq_true.2 fun c hc => (dg_iff c).2 (decDigits_dg u c hc), ?_⟩
  have : 1 ≤ (Lib.decDigits u).length := by rw [Lib.decDigits_length]; exact Lib.nDigits_pos u
  cases h : Lib.decDigits u with
  | nil => rw [h] at this; simp at this
  | cons _ _ => rfl
set_option maxRecDepth 100000 in
set_option maxHeartbeats 2000000 in
theorem implParse (s : ByteArray) (w : World) (hs : s.size ≤ 1048576) (htab : Lib.TabIs Tryd.prog w "internal/strconv.uint64pow10" .u64 Lib.pow10Tab) (t1 t2 : TypeId) (p1 p2 : Value)
    (hv1 : w.var? Tryd.prog "strconv.ErrSyntax" = some #[.iface t1 p1]) (hv2 : w.var? Tryd.prog "strconv.ErrRange" = some #[.iface t2 p2]) :
    Calls Tryd.prog 9 #[.string s] w (GivesNum w (parseV s) (parseK s)) := by
  have no : ∀ {r}, Lib.atoiAll s.data.toList = r → (∀ n, in64 n → r ≠ .ok n) → parseV s = 0 ∧ parseK s = false := fun h h2 => parse_no fun n hn e => by
    have h3 := atoi_itoa n hn.1 hn.2
    rw [e] at h
    have e2 : (numeral n).data.toList = Lib.itoa n := by simp [numeral]
    rw [e2, h3] at h
    exact h2 n hn h.symm
  cases h : Lib.atoiAll s.data.toList with
  | range =>
    obtain ⟨e1, e2⟩ := no h (fun n _ => by simp)
    rw [e1, e2]
    have HC := Lib.hid (Tryd.strconv_Atoi_range_var s (by omega) h t2 p2 w hv2)
    clear h no htab hv1 hv2 e1 e2
    go_enter Tryd.func9, Tryd.ntmps9
    go_wp2_with fail
    refine HC.out.mono ?_
    rintro e W1 ⟨N, rfl, -, -, hb⟩
    go_wp2
    go_ret2
    exact ⟨rfl, hb⟩
  | ok v =>
    have HC := Lib.hid (Tryd.strconv_Atoi_ok s (by omega) v h w)
    have hin : in64 v := Lib.atoiAll_bounds h
    have HT := Lib.hid (Lib.tabBelow_of_tabIs htab)
    have HI := fun w h => Lib.hid (implFormat v w hin.1 hin.2 h)
    by_cases hq : numeral v = s
    · obtain ⟨e1, e2⟩ := parse_yes hin hq.symm
      rw [e1, e2]
      have hne : (!(numeral v).toList == s.toList) = false := by rw [hq]; simp
      obtain ⟨q, hqq⟩ : ∃ q, q = numeral v := ⟨_, rfl⟩
      rw [← hqq] at hne HI
      clear h no htab hv1 hv2 e1 e2 hq hqq hin
      go_enter Tryd.func9, Tryd.ntmps9
      go_wp2_with fail
      refine HC.out.mono ?_
      rintro e W1 ⟨rfl, hw⟩
      have hb : Below w.heap.size w W1 := by
        rcases hw with rfl | ⟨t, rfl⟩
        · exact Below.refl _ _
        · exact Lib.bytesWorld_below _ _ _
      have HT1 := Lib.hid (HT.out W1 hb)
      clear hw
      go_wp2_with fail
      refine (HI _ HT1.out).out.mono ?_
      rintro e w2 ⟨rfl, hb2⟩
      have hb3 := hb.trans (hb2.mono hb.size)
      clear hb hb2
      go_wp2
      go_ret2
      exact ⟨rfl, hb3⟩
    · obtain ⟨e1, e2⟩ := parse_no (s := s) fun n hn e => by
        have h3 := atoi_itoa n hn.1 hn.2
        have e2 : (numeral n).data.toList = Lib.itoa n := by simp [numeral]
        rw [e, e2, h3] at h
        injection h with h
        rw [h] at e
        exact hq e.symm
      rw [e1, e2]
      have hne : (!(numeral v).toList == s.toList) = true := by
        rw [Bool.not_eq_true', beq_eq_false_iff_ne]
        intro e
        rw [ByteArray.toList_eq, ByteArray.toList_eq] at e
        exact hq (WideShapes.bytes_inj e)
      obtain ⟨q, hqq⟩ : ∃ q, q = numeral v := ⟨_, rfl⟩
      rw [← hqq] at hne HI
      clear h no htab hv1 hv2 e1 e2 hq hqq hin
      go_enter Tryd.func9, Tryd.ntmps9
      go_wp2_with fail
      refine HC.out.mono ?_
      rintro e W1 ⟨rfl, hw⟩
      have hb : Below w.heap.size w W1 := by
        rcases hw with rfl | ⟨t, rfl⟩
        · exact Below.refl _ _
        · exact Lib.bytesWorld_below _ _ _
      have HT1 := Lib.hid (HT.out W1 hb)
      clear hw
      go_wp2_with fail
      refine (HI _ HT1.out).out.mono ?_
      rintro e w2 ⟨rfl, hb2⟩
      have hb3 := hb.trans (hb2.mono hb.size)
      clear hb hb2
      go_wp2
      go_ret2
      exact ⟨rfl, hb3⟩
  | _ =>
    obtain ⟨e1, e2⟩ := no h (fun n _ => by simp)
    rw [e1, e2]
    have HC := Lib.hid (Tryd.strconv_Atoi_syntax_var s (by omega) ⟨by rw [h]; simp, fun v => by rw [h]; simp⟩ t1 p1 w hv1)
    clear h no htab hv1 hv2 e1 e2
    go_enter Tryd.func9, Tryd.ntmps9
    go_wp2_with fail
    refine HC.out.mono ?_
    rintro e W1 ⟨N, rfl, -, -, hb⟩
    go_wp2
    go_ret2
    exact ⟨rfl, hb⟩
theorem tailB_list (s : ByteArray) : (tailB s).data.toList = s.data.toList.drop 1 := by
  unfold tailB
  rw [ByteArray.data_extract, Array.toList_extract]
  have : s.data.toList.length = s.size := Array.length_toList
  apply List.take_of_length_le
  rw [List.length_drop]
  omega
theorem tailB_size (s : ByteArray) : (tailB s).size ≤ s.size := by
  have h := congrArg List.length (tailB_list s)
  rw [List.length_drop] at h
  have h1 : (tailB s).data.toList.length = (tailB s).size := Array.length_toList
  have h2 : s.data.toList.length = s.size := Array.length_toList
  omega
theorem getElem_toList_ (T : ByteArray) (k : Nat) (h : k < T.size) : T.data.toList[k]'(by simpa using h) = T[k] := rfl
theorem head_of {s : ByteArray} (h0 : 0 < s.size) {c : UInt8} {r : List UInt8} (h : s.data.toList = c :: r) : s[0] = c := by
  have h1 := getElem_toList_ s 0 h0
  rw [← h1]
  simp [h]
theorem tail_neg {s : ByteArray} (h0 : 0 < s.size) (h45 : (s[0].toNat : Int) = 45) {n : Int} (e : s = numeral n) : (tailB s).data.toList = Lib.decDigits n.natAbs ∧ n < 0 := by
  by_cases h : n < 0
  · refine ⟨?_, h⟩
    rw [tailB_list, e, numeral_neg h]
    rfl
  · exfalso
    have h1 := numeral_pos h
    rw [← e] at h1
    have h2 : 1 ≤ (Lib.decDigits n.natAbs).length := by rw [Lib.decDigits_length]; exact Lib.nDigits_pos _
    cases hd : Lib.decDigits n.natAbs with
    | nil => rw [hd] at h2; simp at h2
    | cons c r =>
      rw [hd] at h1
      have h3 := head_of h0 h1
      have h4 := decDigits_dg n.natAbs c (by rw [hd]; simp)
      unfold isDg at h4
      rw [h3] at h45
      omega
theorem tail_pos {s : ByteArray} (h0 : 0 < s.size) (h45 : ¬ (s[0].toNat : Int) = 45) {n : Int} (e : s = numeral n) : s.data.toList = Lib.decDigits n.natAbs ∧ 0 ≤ n := by
  by_cases h : n < 0
  · exfalso
    have h1 := numeral_neg h
    rw [← e] at h1
    have h3 := head_of h0 h1
    rw [h3] at h45
    exact h45 rfl
  · refine ⟨?_, by omega⟩
    rw [e, numeral_pos h]
theorem quot10 {c Q : Int} (h1 : 48 ≤ c) (h2 : c ≤ 57) (h : Q = (-9223372036854775808 + (c - 48)).tdiv 10) : (c ≤ 56 ∧ Q = -922337203685477580) ∨ (c = 57 ∧ Q = -922337203685477579) := by
  obtain ⟨d, rfl⟩ : ∃ d : Nat, c = 48 + (d : Int) := ⟨(c - 48).toNat, by omega⟩
  have hd : d < 10 := by omega
  have : ∀ d : Nat, d < 10 → ((-9223372036854775808 : Int) + ((48 + (d : Int)) - 48)).tdiv 10 = if d = 9 then -922337203685477579 else -922337203685477580 := by decide
  rw [this d hd] at h
  split at h
  · right; omega
  · left; omega
set_option maxRecDepth 100000 in
set_option maxHeartbeats 4000000 in
theorem specParse (s : ByteArray) (w : World) (hs : s.size ≤ 1048576) :
    Calls Tryd.prog 8 #[.string s] w (GivesNum w (parseV s) (parseK s)) := by
  by_cases h0 : 0 < s.size
  · by_cases h45 : (s[0].toNat : Int) = 45
    · skip
      have hs0 : (0 : Int) < (s.size : Int) := by omega
      have t0 : ((s[0].toNat : Int) == 45) = true := by rw [h45]; rfl
      obtain ⟨T, hT⟩ : ∃ T, T = (tailB s) := ⟨_, rfl⟩
      have HTT := Lib.hid hT
      have hTs : T.size ≤ 1048576 := by rw [hT]; have := tailB_size s; omega
      have FACT : ∀ n, in64 n → s = numeral n → T.data.toList = Lib.decDigits n.natAbs ∧ n < 0 := fun n hn e => by rw [hT]; exact tail_neg h0 h45 e
      have HFACT := Lib.hid FACT
      have HDG := fun w => Lib.hid (specDigits T w (by unfold maxLen; omega))
      clear h45
      cases hd : digitsB T.data.toList with
      | false =>
        rw [hd] at HDG
        obtain ⟨e1, e2⟩ := parse_no (s := s) fun n hn e => by
          have h1 := (FACT n hn e).1
          rw [h1, digits_dec] at hd
          cases hd
        have E1 := Lib.hid e1
        have E2 := Lib.hid e2
        clear e1 e2 hd FACT
        go_enter Tryd.func8, Tryd.ntmps8
        go_wp2_with fail
        rw [show s.extract 1 s.size = T from hT.symm]
        refine (HDG _).out.mono ?_
        rintro e w' ⟨rfl, rfl⟩
        go_wp2
        go_ret2
        exact ⟨by rw [E1.out, E2.out]; rfl, Below.refl _ _⟩
      | true =>
        rw [hd] at HDG
        have hdg : ∀ c ∈ T.data.toList, isDg c := fun c hc => by
          unfold digitsB at hd
          rw [Bool.and_eq_true, List.all_eq_true] at hd
          exact (dg_iff c).1 (hd.1 c hc)
        have HDC := Lib.hid hdg
        by_cases h19 : T.size ≤ 19
        · have h19' : (T.size : Int) ≤ 19 := by omega
          clear FACT hd hdg
          go_enter Tryd.func8, Tryd.ntmps8
          go_wp2_with fail
          rw [show s.extract 1 s.size = T from hT.symm]
          refine (HDG _).out.mono ?_
          rintro e w' ⟨rfl, rfl⟩
          clear hT
          go_wp2_with fail
          go_loopw [6, 7] (fun x i wr => ∃ (k : Nat) (a : Int), k ≤ T.size ∧ i = .int .i64 k ∧ x = .int .i64 a ∧ -9223372036854775808 ≤ a ∧ a ≤ 0 ∧ Hid (a = -((valA 0 (T.data.toList.take k) : Nat) : Int)) ∧ w = wr) (fun _ i _ => T.size - (intOf i).toNat)
          case atStart => exact ⟨0, 0, Nat.zero_le _, rfl, rfl, by omega, by omega, Lib.hid rfl, rfl⟩
          case round =>
            obtain ⟨k, a, hk, rfl, rfl, ha0, ha1, HA, rfl⟩ := hrel
            by_cases hlt : k < T.size
            · have hk0 : (0 : Int) ≤ (k : Int) := Int.natCast_nonneg _
              have hk1 : (k : Int) < (T.size : Int) := by omega
              have hc := HDC.out T[k] (by rw [← getElem_toList_ T k hlt]; exact List.getElem_mem _)
              obtain ⟨hc1, hc2⟩ := hc
              have hc3 : (48 : Int) ≤ (T[k].toNat : Int) := by omega
              have hc4 : (T[k].toNat : Int) ≤ 57 := by omega
              have HV := Lib.hid (show (valA 0 (T.data.toList.take (k + 1)) : Nat) = valA 0 (T.data.toList.take k) * 10 + (T[k].toNat - 48) by rw [take_snoc T k hlt, valA_append, valA_cons, valA_nil])
              obtain ⟨Q, hQ⟩ : ∃ Q, Q = (-9223372036854775808 + ((T[k].toNat : Int) - 48)).tdiv 10 := ⟨_, rfl⟩
              have hq := quot10 hc3 hc4 hQ
              by_cases hf : a < Q
              · obtain ⟨e1, e2⟩ := parse_no (s := s) fun n hn e => by
                  have h1 := (HFACT.out n hn e).1
                  have h2 := valA_take T.data.toList (k + 1)
                  have h3 := HV.out
                  have h4 := HA.out
                  have h5 : valA 0 T.data.toList = n.natAbs := by rw [h1, val_decDigits]
                  have h6 := hn.1
                  have h7 := hn.2
                  omega
                have E1 := Lib.hid e1
                have E2 := Lib.hid e2
                clear e1 e2
                have hq1 : -9223372036854775808 ≤ Q := by omega
                have hq2 : Q ≤ 9223372036854775807 := by omega
                clear hq
                rw [hQ] at hq1 hq2 hf
                clear hQ
                go_wp2
                go_ret2
                exact ⟨by rw [E1.out, E2.out]; rfl, Below.refl _ _⟩
              · have hf2 : Q ≤ a := by omega
                have hn1 : -9223372036854775808 ≤ a * 10 := by omega
                have hn2 : -9223372036854775808 ≤ a * 10 - ((T[k].toNat : Int) - 48) := by omega
                have HA2 : Hid (a * 10 - ((T[k].toNat : Int) - 48) = -((valA 0 (T.data.toList.take (k + 1)) : Nat) : Int)) := Lib.hid (by have h3 := HV.out; have h4 := HA.out; omega)
                have hq1 : -9223372036854775808 ≤ Q := by omega
                have hq2 : Q ≤ 9223372036854775807 := by omega
                clear hq
                rw [hQ] at hq1 hq2 hf2
                clear hQ
                clear hf
                go_wp2
                exact ⟨⟨k + 1, _, by omega, by go_num, rfl, hn2, by omega, HA2, trivial⟩, by simp [intOf]; omega⟩
            · have HE : Hid (a = -((valA 0 T.data.toList : Nat) : Int)) := Lib.hid (by have h := HA.out; rwa [List.take_of_length_le (by have : T.data.toList.length = T.size := Array.length_toList; omega)] at h)
              clear HA
              have HSF := fun w => Lib.hid (specFormat (a) w (by omega) (by omega))
              by_cases hq : numeral (a) = s
              · obtain ⟨e1, e2⟩ := parse_yes (n := a) ⟨by omega, by omega⟩ hq.symm
                have E1 := Lib.hid e1
                have E2 := Lib.hid e2
                have hne : (!(numeral (a)).toList == s.toList) = false := by rw [hq]; simp
                obtain ⟨q, hqq⟩ : ∃ q, q = numeral (a) := ⟨_, rfl⟩
                rw [← hqq] at hne HSF
                clear e1 e2 hq hqq
                go_wp2_with fail
                refine (HSF _).out.mono ?_
                rintro e w2 ⟨rfl, hb2⟩
                go_wp2
                go_ret2
                exact ⟨by rw [E1.out, E2.out]; rfl, hb2⟩
              · obtain ⟨e1, e2⟩ := parse_no (s := s) fun n hn e => by
                  obtain ⟨h1, h2⟩ := HFACT.out n hn e
                  have h5 : valA 0 T.data.toList = n.natAbs := by rw [h1, val_decDigits]
                  have h6 := HE.out
                  have h7 : a = n := by omega
                  rw [h7] at hq
                  exact hq e.symm
                have E1 := Lib.hid e1
                have E2 := Lib.hid e2
                have hne : (!(numeral (a)).toList == s.toList) = true := by
                  rw [Bool.not_eq_true', beq_eq_false_iff_ne]
                  intro e
                  rw [ByteArray.toList_eq, ByteArray.toList_eq] at e
                  exact hq (WideShapes.bytes_inj e)
                obtain ⟨q, hqq⟩ : ∃ q, q = numeral (a) := ⟨_, rfl⟩
                rw [← hqq] at hne HSF
                clear e1 e2 hq hqq
                go_wp2_with fail
                refine (HSF _).out.mono ?_
                rintro e w2 ⟨rfl, hb2⟩
                go_wp2
                go_ret2
                exact ⟨by rw [E1.out, E2.out]; rfl, hb2⟩
        · obtain ⟨e1, e2⟩ := parse_no (s := s) fun n hn e => by
            have h1 := (FACT n hn e).1
            have h2 := (decDigits_len n.natAbs (by have h6 := hn.1; have h7 := hn.2; omega)).1
            rw [← h1] at h2
            have : T.data.toList.length = T.size := Array.length_toList
            omega
          have E1 := Lib.hid e1
          have E2 := Lib.hid e2
          have h19' : (19 : Int) < (T.size : Int) := by omega
          clear e1 e2 FACT hd hdg h19
          go_enter Tryd.func8, Tryd.ntmps8
          go_wp2_with fail
          rw [show s.extract 1 s.size = T from hT.symm]
          refine (HDG _).out.mono ?_
          rintro e w' ⟨rfl, rfl⟩
          clear hT
          go_wp2
          go_ret2
          exact ⟨by rw [E1.out, E2.out]; rfl, Below.refl _ _⟩
    · skip
      have hs0 : (0 : Int) < (s.size : Int) := by omega
      have t0 : ((s[0].toNat : Int) == 45) = false := by simp; omega
      have FACT : ∀ n, in64 n → s = numeral n → s.data.toList = Lib.decDigits n.natAbs ∧ 0 ≤ n := fun n hn e => tail_pos h0 h45 e
      have HFACT := Lib.hid FACT
      have HDG := fun w => Lib.hid (specDigits s w (by unfold maxLen; omega))
      clear h45
      cases hd : digitsB s.data.toList with
      | false =>
        rw [hd] at HDG
        obtain ⟨e1, e2⟩ := parse_no (s := s) fun n hn e => by
          have h1 := (FACT n hn e).1
          rw [h1, digits_dec] at hd
          cases hd
        have E1 := Lib.hid e1
        have E2 := Lib.hid e2
        clear e1 e2 hd FACT
        go_enter Tryd.func8, Tryd.ntmps8
        go_wp2_with fail
        refine (HDG _).out.mono ?_
        rintro e w' ⟨rfl, rfl⟩
        go_wp2
        go_ret2
        exact ⟨by rw [E1.out, E2.out]; rfl, Below.refl _ _⟩
      | true =>
        rw [hd] at HDG
        have hdg : ∀ c ∈ s.data.toList, isDg c := fun c hc => by
          unfold digitsB at hd
          rw [Bool.and_eq_true, List.all_eq_true] at hd
          exact (dg_iff c).1 (hd.1 c hc)
        have HDC := Lib.hid hdg
        by_cases h19 : s.size ≤ 19
        · have h19' : (s.size : Int) ≤ 19 := by omega
          clear FACT hd hdg
          go_enter Tryd.func8, Tryd.ntmps8
          go_wp2_with fail
          refine (HDG _).out.mono ?_
          rintro e w' ⟨rfl, rfl⟩
          go_wp2_with fail
          go_loopw [6, 7] (fun x i wr => ∃ (k : Nat) (a : Int), k ≤ s.size ∧ i = .int .i64 k ∧ x = .int .i64 a ∧ -9223372036854775808 ≤ a ∧ a ≤ 0 ∧ Hid (a = -((valA 0 (s.data.toList.take k) : Nat) : Int)) ∧ w = wr) (fun _ i _ => s.size - (intOf i).toNat)
          case atStart => exact ⟨0, 0, Nat.zero_le _, rfl, rfl, by omega, by omega, Lib.hid rfl, rfl⟩
          case round =>
            obtain ⟨k, a, hk, rfl, rfl, ha0, ha1, HA, rfl⟩ := hrel
            by_cases hlt : k < s.size
            · have hk0 : (0 : Int) ≤ (k : Int) := Int.natCast_nonneg _
              have hk1 : (k : Int) < (s.size : Int) := by omega
              have hc := HDC.out s[k] (by rw [← getElem_toList_ s k hlt]; exact List.getElem_mem _)
              obtain ⟨hc1, hc2⟩ := hc
              have hc3 : (48 : Int) ≤ (s[k].toNat : Int) := by omega
              have hc4 : (s[k].toNat : Int) ≤ 57 := by omega
              have HV := Lib.hid (show (valA 0 (s.data.toList.take (k + 1)) : Nat) = valA 0 (s.data.toList.take k) * 10 + (s[k].toNat - 48) by rw [take_snoc s k hlt, valA_append, valA_cons, valA_nil])
              obtain ⟨Q, hQ⟩ : ∃ Q, Q = (-9223372036854775808 + ((s[k].toNat : Int) - 48)).tdiv 10 := ⟨_, rfl⟩
              have hq := quot10 hc3 hc4 hQ
              by_cases hf : a < Q
              · obtain ⟨e1, e2⟩ := parse_no (s := s) fun n hn e => by
                  have h1 := (HFACT.out n hn e).1
                  have h2 := valA_take s.data.toList (k + 1)
                  have h3 := HV.out
                  have h4 := HA.out
                  have h5 : valA 0 s.data.toList = n.natAbs := by rw [h1, val_decDigits]
                  have h6 := hn.1
                  have h7 := hn.2
                  omega
                have E1 := Lib.hid e1
                have E2 := Lib.hid e2
                clear e1 e2
                have hq1 : -9223372036854775808 ≤ Q := by omega
                have hq2 : Q ≤ 9223372036854775807 := by omega
                clear hq
                rw [hQ] at hq1 hq2 hf
                clear hQ
                go_wp2
                go_ret2
                exact ⟨by rw [E1.out, E2.out]; rfl, Below.refl _ _⟩
              · have hf2 : Q ≤ a := by omega
                have hn1 : -9223372036854775808 ≤ a * 10 := by omega
                have hn2 : -9223372036854775808 ≤ a * 10 - ((s[k].toNat : Int) - 48) := by omega
                have HA2 : Hid (a * 10 - ((s[k].toNat : Int) - 48) = -((valA 0 (s.data.toList.take (k + 1)) : Nat) : Int)) := Lib.hid (by have h3 := HV.out; have h4 := HA.out; omega)
                have hq1 : -9223372036854775808 ≤ Q := by omega
                have hq2 : Q ≤ 9223372036854775807 := by omega
                clear hq
                rw [hQ] at hq1 hq2 hf2
                clear hQ
                clear hf
                go_wp2
                exact ⟨⟨k + 1, _, by omega, by go_num, rfl, hn2, by omega, HA2, trivial⟩, by simp [intOf]; omega⟩
            · have HE : Hid (a = -((valA 0 s.data.toList : Nat) : Int)) := Lib.hid (by have h := HA.out; rwa [List.take_of_length_le (by have : s.data.toList.length = s.size := Array.length_toList; omega)] at h)
              clear HA
              by_cases hmin : a = -9223372036854775808
              · obtain ⟨e1, e2⟩ := parse_no (s := s) fun n hn e => by
                  obtain ⟨h1, h2⟩ := HFACT.out n hn e
                  have h5 : valA 0 s.data.toList = n.natAbs := by rw [h1, val_decDigits]
                  have h6 := HE.out
                  have h7 := hn.2
                  omega
                have E1 := Lib.hid e1
                have E2 := Lib.hid e2
                have tm : (a == -9223372036854775808) = true := by rw [hmin]; rfl
                clear e1 e2 hmin
                go_wp2
                go_ret2
                exact ⟨by rw [E1.out, E2.out]; rfl, Below.refl _ _⟩
              · have tm : (a == -9223372036854775808) = false := by simp [hmin]
                have ha2 : -9223372036854775807 ≤ a := by omega
                clear hmin
                have HSF := fun w => Lib.hid (specFormat (-a) w (by omega) (by omega))
                by_cases hq : numeral (-a) = s
                · obtain ⟨e1, e2⟩ := parse_yes (n := -a) ⟨by omega, by omega⟩ hq.symm
                  have E1 := Lib.hid e1
                  have E2 := Lib.hid e2
                  have hne : (!(numeral (-a)).toList == s.toList) = false := by rw [hq]; simp
                  obtain ⟨q, hqq⟩ : ∃ q, q = numeral (-a) := ⟨_, rfl⟩
                  rw [← hqq] at hne HSF
                  clear e1 e2 hq hqq
                  go_wp2_with fail
                  refine (HSF _).out.mono ?_
                  rintro e w2 ⟨rfl, hb2⟩
                  go_wp2
                  go_ret2
                  exact ⟨by rw [E1.out, E2.out]; rfl, hb2⟩
                · obtain ⟨e1, e2⟩ := parse_no (s := s) fun n hn e => by
                    obtain ⟨h1, h2⟩ := HFACT.out n hn e
                    have h5 : valA 0 s.data.toList = n.natAbs := by rw [h1, val_decDigits]
                    have h6 := HE.out
                    have h7 : -a = n := by omega
                    rw [h7] at hq
                    exact hq e.symm
                  have E1 := Lib.hid e1
                  have E2 := Lib.hid e2
                  have hne : (!(numeral (-a)).toList == s.toList) = true := by
                    rw [Bool.not_eq_true', beq_eq_false_iff_ne]
                    intro e
                    rw [ByteArray.toList_eq, ByteArray.toList_eq] at e
                    exact hq (WideShapes.bytes_inj e)
                  obtain ⟨q, hqq⟩ : ∃ q, q = numeral (-a) := ⟨_, rfl⟩
                  rw [← hqq] at hne HSF
                  clear e1 e2 hq hqq
                  go_wp2_with fail
                  refine (HSF _).out.mono ?_
                  rintro e w2 ⟨rfl, hb2⟩
                  go_wp2
                  go_ret2
                  exact ⟨by rw [E1.out, E2.out]; rfl, hb2⟩
        · obtain ⟨e1, e2⟩ := parse_no (s := s) fun n hn e => by
            have h1 := (FACT n hn e).1
            have h2 := (decDigits_len n.natAbs (by have h6 := hn.1; have h7 := hn.2; omega)).1
            rw [← h1] at h2
            have : s.data.toList.length = s.size := Array.length_toList
            omega
          have E1 := Lib.hid e1
          have E2 := Lib.hid e2
          have h19' : (19 : Int) < (s.size : Int) := by omega
          clear e1 e2 FACT hd hdg h19
          go_enter Tryd.func8, Tryd.ntmps8
          go_wp2_with fail
          refine (HDG _).out.mono ?_
          rintro e w' ⟨rfl, rfl⟩
          go_wp2
          go_ret2
          exact ⟨by rw [E1.out, E2.out]; rfl, Below.refl _ _⟩
  · have he : s = ⟨#[]⟩ := ByteArray.ext (Array.eq_empty_of_size_eq_zero (by have : s.data.size = s.size := rfl; omega))
    obtain ⟨e1, e2⟩ := parse_no (s := s) fun n hn e => by
      have h1 : (numeral n).data.toList = [] := by rw [← e, he]
      by_cases h : n < 0
      · rw [numeral_neg h] at h1; cases h1
      · rw [numeral_pos h] at h1
        have h2 : 1 ≤ (Lib.decDigits n.natAbs).length := by rw [Lib.decDigits_length]; exact Lib.nDigits_pos _
        rw [h1] at h2; simp at h2
    have E1 := Lib.hid e1
    have E2 := Lib.hid e2
    have HDG := fun w => Lib.hid (specDigits s w (by unfold maxLen; omega))
    rw [show digitsB s.data.toList = false by rw [he]; rfl] at HDG
    have hz : (s.size : Int) ≤ 0 := by omega
    clear e1 e2 he
    go_enter Tryd.func8, Tryd.ntmps8
    go_wp2_with fail
    refine (HDG _).out.mono ?_
    rintro e w' ⟨rfl, rfl⟩
    go_wp2
    go_ret2
    exact ⟨by rw [E1.out, E2.out]; rfl, Below.refl _ _⟩
end Go.Proofs.YtbmihbbpdmpmpaaDoor
