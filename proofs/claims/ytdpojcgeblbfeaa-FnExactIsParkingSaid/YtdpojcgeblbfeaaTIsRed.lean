/- IsReduced: both sides. -/
import Derived.Test.YtdpojcgeblbfeaaTBI
set_option linter.all false
namespace Go.Proofs.Ytdpojcgeblbfeaa
open Go.RowKit

noncomputable def isRedB (N : Int) (es : List (Int × Int)) (d : List Int) (q : Int) : Bool := burnOk N es d q && (!hasDebt d q && decide (((burnR N es d q).length : Int) = N))
set_option maxRecDepth 100000 in
set_option maxHeartbeats 2000000 in
theorem specIsRed (N : Int) (A D : Option Addr) (c cd : Nat) (es : List (Int × Int)) (d : List Int) (q : Int) (w : World) (hn : es.length ≤ 1048576) (hd : d.length ≤ 1048576) (hE : EdgeS w w.heap.size A es) (hS : IntS w w.heap.size D d) :
    Calls Try.prog 89 #[.agg #[.int .i64 N, .slice A es.length c], .slice D d.length cd, .int .i64 q] w fun e w' => e = .returned (.bool (isRedB N es d q)) ∧ Below w.heap.size w w' := by
  have HE := Lib.hid hE
  have HS := Lib.hid hS
  clear hE hS
  have G0 := GB.start w N A c es
  have HD := fun w h1 h2 => Lib.hid (specBurnFrom N A D c cd es d q w hn hd h1 h2)
  have hbl := burnR_len N es d q
  rw [isRedB]
  obtain ⟨bs, hbs⟩ : ∃ x, x = burnR N es d q := ⟨_, rfl⟩
  rw [← hbs] at HD hbl ⊢
  cases h1 : burnOk N es d q with
  | false =>
    rw [h1] at HD
    clear h1 hbs
    go_enter Try.func89, Try.ntmps89
    go_wp2_with fail
    refine (HD _ (HE.out.up_ G0.old) (HS.out.up_ G0.old)).out.mono ?_
    rintro e w1 ⟨A1, c1, rfl, _, hb1⟩
    have G1 := Lib.hid (G0.next hb1)
    clear G0 hb1
    go_wp2
    go_ret
    exact ⟨ret_boolE (by simp), G1.out.old⟩
  | true =>
    rw [h1] at HD
    clear h1 hbs
    have HX := fun (w' : World) (hb : Below w.heap.size w w') => Lib.hid (l05Debt_any D cd w'.heap.size d q w' hd (HS.out.up_ hb))
    obtain ⟨hdv, hh⟩ : ∃ x, x = hasDebt d q := ⟨_, rfl⟩
    rw [← hh] at HX
    rw [← hh]
    obtain ⟨t, ht⟩ : ∃ t, t = decide ((bs.length : Int) = N) := ⟨_, rfl⟩
    rw [← ht]
    have HT := Lib.hid (show ((bs.length : Int) == N) = t by rw [ht]; rfl)
    clear hh ht
    go_enter Try.func89, Try.ntmps89
    go_wp2_with fail
    refine (HD _ (HE.out.up_ G0.old) (HS.out.up_ G0.old)).out.mono ?_
    rintro e w1 ⟨A1, c1, rfl, _, hb1⟩
    have G1 := Lib.hid (G0.next hb1)
    have c0 := G1.out.c0
    have t0 := HT.out
    clear G0 hb1
    cases hdv with
    | true =>
      go_wp2_with fail
      refine (HX _ G1.out.old).out.mono ?_
      rintro e w2 ⟨rfl, rfl⟩
      go_wp2
      go_ret
      exact ⟨ret_boolE (by simp), G1.out.old⟩
    | false =>
      go_wp2_with fail
      refine (HX _ G1.out.old).out.mono ?_
      rintro e w2 ⟨rfl, rfl⟩
      go_wp2
      go_ret
      exact ⟨ret_boolE (by simp), G1.out.old⟩

set_option maxRecDepth 100000 in
set_option maxHeartbeats 2000000 in
theorem implIsRed (N : Int) (A D : Option Addr) (c cd : Nat) (es : List (Int × Int)) (d : List Int) (q : Int) (w : World) (hn : es.length ≤ 1048576) (hd : d.length ≤ 1048576) (hE : EdgeS w w.heap.size A es) (hS : IntS w w.heap.size D d) :
    Calls Try.prog 90 #[.agg #[.int .i64 N, .slice A es.length c], .slice D d.length cd, .int .i64 q] w fun e w' => e = .returned (.bool (isRedB N es d q)) ∧ Below w.heap.size w w' := by
  have HE := Lib.hid hE
  have HS := Lib.hid hS
  clear hE hS
  have G0 := GB.start w N A c es
  have HD := fun w h1 h2 => Lib.hid (implBurnFrom N A D c cd es d q w hn hd h1 h2)
  have hbl := burnR_len N es d q
  rw [isRedB]
  obtain ⟨bs, hbs⟩ : ∃ x, x = burnR N es d q := ⟨_, rfl⟩
  rw [← hbs] at HD hbl ⊢
  cases h1 : burnOk N es d q with
  | false =>
    rw [h1] at HD
    clear h1 hbs
    go_enter Try.func90, Try.ntmps90
    go_wp2_with fail
    refine (HD _ (HE.out.up_ G0.old) (HS.out.up_ G0.old)).out.mono ?_
    rintro e w1 ⟨A1, c1, rfl, _, hb1⟩
    have G1 := Lib.hid (G0.next hb1)
    clear G0 hb1
    go_wp2
    go_ret
    exact ⟨ret_boolE (by simp), G1.out.old⟩
  | true =>
    rw [h1] at HD
    clear h1 hbs
    have HX := fun (w' : World) (hb : Below w.heap.size w w') => Lib.hid (debtorBeside_any D cd w'.heap.size d q w' hd (HS.out.up_ hb))
    obtain ⟨hdv, hh⟩ : ∃ x, x = hasDebt d q := ⟨_, rfl⟩
    have HQ := Lib.hid (debtor_eq d q)
    rw [← hh] at HQ
    obtain ⟨dv, hdd⟩ : ∃ x, x = debtor d q := ⟨_, rfl⟩
    rw [← hdd] at HX HQ
    clear hdd
    rw [← hh]
    obtain ⟨t, ht⟩ : ∃ t, t = decide ((bs.length : Int) = N) := ⟨_, rfl⟩
    rw [← ht]
    have HT := Lib.hid (show ((bs.length : Int) == N) = t by rw [ht]; rfl)
    clear hh ht
    go_enter Try.func90, Try.ntmps90
    go_wp2_with fail
    refine (HD _ (HE.out.up_ G0.old) (HS.out.up_ G0.old)).out.mono ?_
    rintro e w1 ⟨A1, c1, rfl, _, hb1⟩
    have G1 := Lib.hid (G0.next hb1)
    have c0 := G1.out.c0
    have t0 := HT.out
    clear G0 hb1
    cases t with
    | false =>
      go_wp2
      go_ret
      exact ⟨ret_boolE (by simp), G1.out.old⟩
    | true =>
      go_wp2_with fail
      refine (HX _ G1.out.old).out.mono ?_
      rintro e w2 ⟨rfl, rfl⟩
      have t2 := HQ.out
      go_wp2
      go_ret
      exact ⟨ret_boolE (by simp), G1.out.old⟩

end Go.Proofs.Ytdpojcgeblbfeaa
