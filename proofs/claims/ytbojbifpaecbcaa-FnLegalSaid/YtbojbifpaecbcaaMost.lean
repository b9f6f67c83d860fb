/- MostLegalSet: both sides. -/
import Derived.Test.YtbojbifpaecbcaaDebt
namespace Go.Proofs.Ytbojbifpaecbcaa
open Go.RowKit

noncomputable def mostOk (N : Int) (es : List (Int × Int)) (d : List Int) (q : Int) : Bool := burnOk N es d q && !hasDebt d q
noncomputable def mostB (N : Int) (es : List (Int × Int)) (d : List Int) (q : Int) : List Int := if mostOk N es d q = true then sparedL N.toNat (burntL N.toNat es d q) else []
theorem mostB_f {N : Int} {es : List (Int × Int)} {d : List Int} {q : Int} (h : mostOk N es d q = false) : mostB N es d q = [] := by rw [mostB, if_neg (by rw [h]; decide)]
theorem mostB_t {N : Int} {es : List (Int × Int)} {d : List Int} {q : Int} (h : mostOk N es d q = true) : mostB N es d q = sparedL N.toNat (burntL N.toNat es d q) := by rw [mostB, if_pos h]
theorem mostB_len (N : Int) (es : List (Int × Int)) (d : List Int) (q : Int) : (mostB N es d q).length ≤ 6 := by
  cases h : mostOk N es d q with
  | false => rw [mostB_f h]; simp
  | true =>
    rw [mostB_t h]
    simp only [mostOk, burnOk, Bool.and_eq_true] at h
    obtain ⟨M, rfl, h0, h6, _⟩ := div_limsB h.1.1
    have := sparedL_len M (burntL M es d q)
    simp only [Int.toNat_natCast]
    omega

theorem own_emptyB (w : World) (base : Nat) (hb : base ≤ w.heap.size) (t : TypeId) : (w.alloc (.cells #[] t)).ownsRow base t 1 (.slice (some ⟨w.heap.size, 0, none⟩) 0 0) 0 [] :=
  ⟨rfl, .inr ⟨w.heap.size, 0, #[], rfl, hb, heap_alloc_new w _, Nat.le_refl _, Nat.zero_le _, rfl, rfl⟩⟩
set_option maxRecDepth 100000 in
set_option maxHeartbeats 2000000 in
theorem specMost (N : Int) (A D : Option Addr) (c cd : Nat) (es : List (Int × Int)) (d : List Int) (q : Int) (w : World) (hn : es.length ≤ 1048576) (hd : d.length ≤ 1048576) (hE : EdgeS w w.heap.size A es) (hS : IntS w w.heap.size D d) :
    Calls Try.prog 50 #[.agg #[.int .i64 N, .slice A es.length c], .slice D d.length cd, .int .i64 q] w (GivesInts w (mostB N es d q)) := by
  have HE := Lib.hid hE
  have HS := Lib.hid hS
  clear hE hS
  have G0 := GB.start w N A c es
  have HD := fun w h1 h2 => Lib.hid (l05Ok_any N A D c cd es d q w hn hd h1 h2)
  have HX := fun (w' : World) (hb : Below w.heap.size w w') => Lib.hid (l05Debt_any D cd w'.heap.size d q w' hd (HS.out.up_ hb))
  cases h1 : burnOk N es d q with
  | false =>
    rw [h1] at HD
    rw [mostB_f (by simp [mostOk, h1])]
    clear h1
    go_enter Try.func50, Try.ntmps50
    go_wp2_with fail
    refine (HD _ (HE.out.up_ G0.old) (HS.out.up_ G0.old)).out.mono ?_
    rintro e w1 ⟨rfl, hb1⟩
    have G1 := Lib.hid (G0.next hb1)
    clear G0 hb1
    go_wp2
    go_ret
    exact ⟨none, 0, rfl, OwnI.nil _ _ _, G1.out.old⟩
  | true =>
    rw [h1] at HD
    cases h2 : hasDebt d q with
    | true =>
      rw [h2] at HX
      rw [mostB_f (by simp [mostOk, h2])]
      clear h1 h2
      go_enter Try.func50, Try.ntmps50
      go_wp2_with fail
      refine (HD _ (HE.out.up_ G0.old) (HS.out.up_ G0.old)).out.mono ?_
      rintro e w1 ⟨rfl, hb1⟩
      have G1 := Lib.hid (G0.next hb1)
      clear G0 hb1
      go_wp2_with fail
      refine (HX _ G1.out.old).out.mono ?_
      rintro e w2 ⟨rfl, rfl⟩
      go_wp2
      go_ret
      exact ⟨none, 0, rfl, OwnI.nil _ _ _, G1.out.old⟩
    | false =>
      rw [h2] at HX
      rw [mostB_t (by simp [mostOk, h1, h2])]
      simp only [burnOk, Bool.and_eq_true] at h1
      obtain ⟨M, rfl, hM0, hM6, hn12, hdl, hes, -⟩ := div_limsB h1.1
      obtain ⟨hq0, hq1⟩ := vB_iff h1.2
      obtain ⟨q, rfl⟩ : ∃ v : Nat, q = (v : Int) := ⟨q.toNat, by omega⟩
      rw [Int.toNat_natCast]
      obtain ⟨i0, hi, hz0, hz1, hz2⟩ := info_parts intInfo
      have HB := fun w h1 h2 => Lib.hid (l05Burn_any A D c cd M q es d w hM0 hM6 (by omega) hdl hn12 hes h1 h2)
      have hbl : (burntL M es d (q : Int)).length ≤ 6 := by
        have := (burntL_all (M := M) (es := es) (d := d) (q := (q : Int)) (by omega)).1.len
        omega
      obtain ⟨bs, hbs⟩ : ∃ x, x = burntL M es d (q : Int) := ⟨_, rfl⟩
      rw [← hbs] at HB hbl ⊢
      clear h1 h2 hes hdl hbs
      go_enter Try.func50, Try.ntmps50
      go_wp2_with fail
      refine (HD _ (HE.out.up_ G0.old) (HS.out.up_ G0.old)).out.mono ?_
      rintro e w1 ⟨rfl, hb1⟩
      have G1 := Lib.hid (G0.next hb1)
      have c0 := G1.out.c0
      have c1 := G1.out.c1
      clear G0 hb1
      go_wp2_with fail
      refine (HX _ G1.out.old).out.mono ?_
      rintro e w2 ⟨rfl, rfl⟩
      go_wp2_with fail
      refine (HB _ (HE.out.up_ G1.out.old) (HS.out.up_ G1.out.old)).out.mono ?_
      rintro e w2 ⟨A2, c2, rfl, ho, hb2⟩
      have G2 := Lib.hid (G1.out.next hb2)
      have HO := Lib.hid ho.ints
      have HOW := Lib.hid (own_emptyB w2 w2.heap.size (Nat.le_refl _) 3)
      clear ho hb2 c0 c1
      have hw2 := G2.out.old.size
      have HG3 := Lib.hid (show GB w (w2.alloc (.cells #[] 3)) (M : Int) A c es from G2.out.next ((Below.refl _ _).alloc (Nat.le_refl _) _))
      have hbe : Below w2.heap.size w2 (w2.alloc (.cells #[] 3)) := (Below.refl _ _).alloc (Nat.le_refl _) _
      have HBE := Lib.hid hbe
      clear hbe
      go_wp2
      go_loopw [8, 9] (fun s i wr => ∃ (k : Nat) (A3 : Option Addr) (c3 : Nat), k ≤ M ∧ i = .int .i64 k ∧ s = .slice A3 (sparedL k bs).length c3 ∧ wr.ownsRow w2.heap.size 3 1 (.slice A3 (sparedL k bs).length c3) (sparedL k bs).length (intCells (sparedL k bs)) ∧ Below w2.heap.size w2 wr ∧ GB w wr (M : Int) A c es) (fun _ i _ => M - (intOf i).toNat)
      case atStart => exact ⟨0, some ⟨w2.heap.size, 0, none⟩, 0, Nat.zero_le _, rfl, rfl, HOW.out, HBE.out, HG3.out⟩
      case round =>
        obtain ⟨k, A3, c3, hk, rfl, rfl, hown, hb, hgb⟩ := hrel
        have HO3 := Lib.hid hown
        have HBW := Lib.hid hb
        have HGB := Lib.hid hgb
        have c0 := hgb.c0
        have hsl := sparedL_len k bs
        have hws := hb.size
        clear hown hb hgb
        obtain ⟨sk, hsk⟩ : ∃ x, x = sparedL k bs := ⟨_, rfl⟩
        rw [← hsk] at HO3 hsl ⊢
        have HQ := Lib.hid hsk
        clear hsk
        by_cases hlt : k < M
        · have hi0 : (0 : Int) ≤ (k : Int) := Int.natCast_nonneg _
          have hi1 : (k : Int) < (M : Int) := by omega
          have HL := Lib.hid (l02Has_any A2 c2 bs (k : Int) wr (by omega) (HO.out.up_ HBW.out))
          rw [inL_contains] at HL
          cases hc : inL bs (k : Int) with
          | true =>
            rw [hc] at HL
            have HN := Lib.hid (show sparedL (k + 1) bs = sk by rw [sparedL_snoc, if_pos hc, HQ.out]; simp)
            clear hc
            go_wp2_with fail
            refine HL.out.mono ?_
            rintro e w' ⟨rfl, rfl⟩
            go_wp2
            exact ⟨⟨k + 1, A3, c3, by omega, by go_num, by rw [HN.out], by rw [HN.out]; exact HO3.out, HBW.out, HGB.out⟩, by simp [intOf]; omega⟩
          | false =>
            rw [hc] at HL
            have HN := Lib.hid (show sparedL (k + 1) bs = sk ++ [(k : Int)] by rw [sparedL_snoc, if_neg (by rw [hc]; decide), HQ.out])
            have OW := Lib.hid (own_below HO3.out ((Below.refl _ _).alloc (Nat.le_refl _) (.cells #[.int .i64 (k : Int)] 3)))
            have GX := Lib.hid (HGB.out.next ((Below.refl _ _).alloc (Nat.le_refl _) (.cells #[.int .i64 (k : Int)] 3)))
            clear hc
            go_wp2_with (first
              | (go_at_call 93; refine HL.out.mono ?_; rintro e w' ⟨rfl, rfl⟩)
              | (at_builtin; refine wpList_append_own _ rfl _ _ 29 rfl w2.heap.size 3 i0 (.int .i64 0) 1 8 Try.underlying29 hi hz0 hz1 hz2 rfl (by decide) _ _ _ rfl OW.out ⟨_, 0, none⟩ 1 1 [.int .i64 (k : Int)] rfl rfl ?k1 ?k2 ?k3 ?k4 ?k5 ?_))
            case k1 => exact one_cell _ _ (by simp) _ _
            case k2 => simp [Value.oneCell']
            case k3 => unfold maxLen; omega
            case k4 => omega
            case k5 => simp; omega
            intro v' w3 hown' hgrow _
            have hown2 : w3.ownsRow w2.heap.size 3 1 v' (sk.length + 1) (intCells (sk ++ [(k : Int)])) := by rw [← cells_snoc]; exact hown'
            obtain ⟨A8, c8, hv8, hlen⟩ := own_slice hown2
            rw [hlen] at hown2
            have hol3 : Below w2.heap.size w2 w3 := (HBW.out.alloc (by omega) (.cells #[.int .i64 (k : Int)] 3)).grown hgrow (by simp; omega) (fun q hq => (OW.out.lt q hq).1)
            have hgb3 : GB w w3 (M : Int) A c es := ⟨GX.out.box.grown hgrow (fun hq => by have := (OW.out.lt _ hq).1; have := G2.out.lt; omega), GX.out.old.grown hgrow (by simp; omega) (fun q hq => by have := (OW.out.lt q hq).1; omega)⟩
            subst hv8
            rw [← HN.out] at hown2
            have HO4 := Lib.hid hown2
            have HL4 := Lib.hid (congrArg List.length HN.out)
            have HB4 := Lib.hid hol3
            have HG4 := Lib.hid hgb3
            clear hown' hown2 hgrow hol3 hlen hgb3
            go_wp2
            exact ⟨⟨k + 1, A8, c8, by omega, by go_num, by rw [HL4.out], HO4.out, HB4.out, HG4.out⟩, by simp [intOf]; omega⟩
        · have HN := Lib.hid (show sk = sparedL M bs by rw [HQ.out, show k = M by omega])
          go_wp2
          go_ret
          exact ⟨A3, c3, by rw [HN.out]; rfl, by rw [← HN.out]; exact (OwnI.of_own HO3.out).mono hw2, HGB.out.old⟩

set_option maxRecDepth 100000 in
set_option maxHeartbeats 2000000 in
theorem implMost (N : Int) (A D : Option Addr) (c cd : Nat) (es : List (Int × Int)) (d : List Int) (q : Int) (w : World) (hn : es.length ≤ 1048576) (hd : d.length ≤ 1048576) (hE : EdgeS w w.heap.size A es) (hS : IntS w w.heap.size D d) :
    Calls Try.prog 31 #[.agg #[.int .i64 N, .slice A es.length c], .slice D d.length cd, .int .i64 q] w (GivesInts w (mostB N es d q)) := by
  have HE := Lib.hid hE
  have HS := Lib.hid hS
  clear hE hS
  have G0 := GB.start w N A c es
  have HD := fun w h1 h2 => Lib.hid (implDiv N A D c cd es d w hn hd h1 h2)
  have HV := fun w => Lib.hid (hasVertex_any N (.slice A es.length c) q w ⟨_, _, _, rfl⟩)
  cases h1 : divB 60 N es d with
  | false =>
    rw [h1] at HD
    have h0 : burnOk N es d q = false := by simp [burnOk, h1]
    rw [mostB_f (by simp [mostOk, h0])]
    clear h1 h0 HV
    go_enter Try.func31, Try.ntmps31
    go_wp2_with fail
    refine (HD _ (HE.out.up_ G0.old) (HS.out.up_ G0.old)).out.mono ?_
    rintro e w1 ⟨rfl, hb1⟩
    have G1 := Lib.hid (G0.next hb1)
    clear G0 hb1
    go_wp2
    go_ret
    exact ⟨none, 0, rfl, OwnI.nil _ _ _, G1.out.old⟩
  | true =>
    rw [h1] at HD
    cases h2 : vB q N with
    | false =>
      rw [h2] at HV
      have h0 : burnOk N es d q = false := by simp [burnOk, h2]
      rw [mostB_f (by simp [mostOk, h0])]
      clear h1 h2 h0
      go_enter Try.func31, Try.ntmps31
      go_wp2_with fail
      refine (HD _ (HE.out.up_ G0.old) (HS.out.up_ G0.old)).out.mono ?_
      rintro e w1 ⟨rfl, hb1⟩
      have G1 := Lib.hid (G0.next hb1)
      have c0 := G1.out.c0
      have c1 := G1.out.c1
      clear G0 hb1
      go_wp2_with fail
      refine (HV _).out.mono ?_
      rintro e w2 ⟨rfl, hb2⟩
      have G2 := Lib.hid (G1.out.next hb2)
      clear hb2 c0 c1
      go_wp2
      go_ret
      exact ⟨none, 0, rfl, OwnI.nil _ _ _, G2.out.old⟩
    | true =>
      rw [h2] at HV
      have h0 : burnOk N es d q = true := by simp [burnOk, h1, h2]
      clear h0
      have HX := fun (w' : World) (hb : Below w.heap.size w w') => Lib.hid (debtorBeside_any D cd w'.heap.size d q w' hd (HS.out.up_ hb))
      have hdl0 := debtor_eq d q
      cases h3 : hasDebt d q with
      | true =>
        rw [h3] at hdl0
        rw [mostB_f (by simp [mostOk, h3])]
        obtain ⟨dv, hdd⟩ : ∃ x, x = debtor d q := ⟨_, rfl⟩
        rw [← hdd] at HX hdl0
        have t3 : (dv != -1) = true := by simp at hdl0; simp [hdl0]
        clear h1 h2 h3 hdd hdl0
        go_enter Try.func31, Try.ntmps31
        go_wp2_with fail
        refine (HD _ (HE.out.up_ G0.old) (HS.out.up_ G0.old)).out.mono ?_
        rintro e w1 ⟨rfl, hb1⟩
        have G1 := Lib.hid (G0.next hb1)
        have c0 := G1.out.c0
        have c1 := G1.out.c1
        clear G0 hb1
        go_wp2_with fail
        refine (HV _).out.mono ?_
        rintro e w2 ⟨rfl, hb2⟩
        have G2 := Lib.hid (G1.out.next hb2)
        clear hb2 c0 c1
        have c0 := G2.out.c0
        have c1 := G2.out.c1
        go_wp2_with fail
        refine (HX _ G2.out.old).out.mono ?_
        rintro e w3 ⟨rfl, rfl⟩
        go_wp2
        go_ret
        exact ⟨none, 0, rfl, OwnI.nil _ _ _, G2.out.old⟩
      | false =>
        rw [h3] at hdl0
        rw [mostB_t (by simp [mostOk, burnOk, h1, h2, h3])]
        obtain ⟨dv, hdd⟩ : ∃ x, x = debtor d q := ⟨_, rfl⟩
        rw [← hdd] at HX hdl0
        have t3 : (dv != -1) = false := by simp at hdl0; simp [hdl0]
        obtain ⟨M, rfl, hM0, hM6, hn12, hdl, hes, -⟩ := div_limsB h1
        obtain ⟨hq0, hq1⟩ := vB_iff h2
        obtain ⟨q, rfl⟩ : ∃ v : Nat, q = (v : Int) := ⟨q.toNat, by omega⟩
        have HES := Lib.hid hes
        have HDL := Lib.hid hdl
        have hd0 : 0 < d.length := by omega
        rw [Int.toNat_natCast]
        clear h1 h2 h3 hdl hes hdd hdl0
        go_enter Try.func31, Try.ntmps31
        go_wp2_with fail
        refine (HD _ (HE.out.up_ G0.old) (HS.out.up_ G0.old)).out.mono ?_
        rintro e w1 ⟨rfl, hb1⟩
        have G1 := Lib.hid (G0.next hb1)
        have c0 := G1.out.c0
        have c1 := G1.out.c1
        clear G0 hb1
        go_wp2_with fail
        refine (HV _).out.mono ?_
        rintro e w2 ⟨rfl, hb2⟩
        have G2 := Lib.hid (G1.out.next hb2)
        clear hb2 c0 c1
        have c0 := G2.out.c0
        have c1 := G2.out.c1
        go_wp2_with fail
        refine (HX _ G2.out.old).out.mono ?_
        rintro e w3 ⟨rfl, rfl⟩
        go_wp2_with fail
        refine (boardOf_any _ _ _ _ _ _ d _ hd0 hd (HS.out.up_ G2.out.old)).mono ?_
        rintro e w3 ⟨p, g, cg, rfl, hbrd, hch, hg, hpg, hb3⟩
        have G3 := Lib.hid (G2.out.next hb3)
        rw [HDL.out] at hbrd
        have HBR := Lib.hid hbrd
        have HCH := Lib.hid hch
        have hp3 := hbrd.lt
        clear hbrd hch hb3 c0 c1
        go_wp2_with fail
        refine (burn_any p g cg c M q A es d w3 hM0 hM6 (by omega) HDL.out hn12 HES.out hp3 HBR.out HCH.out (HE.out.up_ G3.out.old)).mono ?_
        rintro e w4 ⟨base, pf, gh, ch, h, rfl, hz, hh, hb4⟩
        have G4 := Lib.hid (G3.out.next hb4)
        have hs3 := G3.out.old.size
        have hbs := (burntL_all (M := M) (es := es) (d := d) (q := (q : Int)) (by omega)).1
        have hl6 := hbs.len
        have hl0 : 0 < (burntL M es d (q : Int)).length := List.length_pos_of_mem hbs.first
        have SP := Lib.hid (spared_any w3.heap.size base pf gh ch p M (burntL M es d (q : Int)) h w4 hM6 (by omega) hl0 hz)
        clear hz hh hb4 hbs hl6 hl0
        go_wp2_with fail
        refine SP.out.mono ?_
        rintro e w5 ⟨A5, c5, rfl, ho5, hb5⟩
        have G5 := Lib.hid (G4.out.next hb5)
        have HO5 := Lib.hid (ho5.mono G4.out.old.size)
        clear ho5 hb5
        go_wp2
        go_ret
        exact ⟨A5, c5, rfl, HO5.out, G5.out.old⟩

end Go.Proofs.Ytbojbifpaecbcaa
