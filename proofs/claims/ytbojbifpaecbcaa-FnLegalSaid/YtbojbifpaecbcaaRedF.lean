/- laws.FnReduced, the plain facts. -/
import Derived.Test.YtbojbifpaecbcaaRdN
import Derived.Test.YtbojbifpaecbcaaRedO
import Derived.Test.YtbojbifpaecbcaaChipAt
import Derived.Test.YtbojbifpaecbcaaIsRed
import Derived.Test.YtbojbifpaecbcaaMost
import Derived.Test.YtbojbifpaecbcaaLegI
namespace Go.Proofs.Ytbojbifpaecbcaa
open Go.RowKit

theorem divB_of {m : Int} {M : Nat} {es : List (Int × Int)} {d : List Int} (hg : graphB (M : Int) es = true) (hl : d.length = M) (hb : ∀ x ∈ d, -m ≤ x ∧ x ≤ m) : divB m (M : Int) es d = true := by
  rw [divB_a hg (by omega), List.all_eq_true]
  exact fun x hx => within_t (hb x hx)
theorem getD_bound {d : List Int} {lo hi : Int} (hb : ∀ x ∈ d, lo ≤ x ∧ x ≤ hi) (h0 : lo ≤ 0) (h1 : 0 ≤ hi) (u : Nat) : lo ≤ d.getD u 0 ∧ d.getD u 0 ≤ hi := by
  cases hu : d[u]? with
  | none => simp only [List.getD, hu, Option.getD_none]; omega
  | some x =>
    simp only [List.getD, hu, Option.getD_some]
    exact hb x (List.mem_of_getElem? hu)
theorem chipsOf_all {M : Nat} {f : Nat → Int} {lo hi : Int} (h0 : -9223372036854775808 ≤ lo) (h1 : hi ≤ 9223372036854775807) (h : ∀ u, u < M → lo ≤ f u ∧ f u ≤ hi) : ∀ x ∈ chipsOf M f, lo ≤ x ∧ x ≤ hi := fun x hx => by
  obtain ⟨i, hi⟩ := List.getElem?_of_mem hx
  have hl := (List.getElem?_eq_some_iff.1 hi).1
  rw [chipsOf_len] at hl
  rw [chipsOf_at f hl] at hi
  injection hi with hi
  have := h i hl
  rw [wrap64_of (by omega) (by omega)] at hi
  omega
theorem chipsOf_get {M : Nat} {f : Nat → Int} {u : Nat} (hu : u < M) (h : -9223372036854775808 ≤ f u ∧ f u ≤ 9223372036854775807) : (chipsOf M f)[u]? = some (f u) ∧ (chipsOf M f).getD u 0 = f u := by
  have h1 := chipsOf_at f hu
  rw [wrap64_of h.1 h.2] at h1
  exact ⟨h1, by simp [List.getD, h1]⟩
/-- what the law asks of the reduced divisor, its script, and of the divisor that another script leads to -/
structure RedLaw (M : Nat) (es : List (Int × Int)) (d t : List Int) (q : Nat) : Prop where
  ok : burnOk (M : Int) es d (q : Int) = true
  rl : (redR (M : Int) es d (q : Int)).length = M
  sl : (scrR (M : Int) es d (q : Int)).length = M
  fok : fireOk (M : Int) es d (scrR (M : Int) es d (q : Int)) = true
  s0 : (scrR (M : Int) es d (q : Int))[q]? = some 0
  fs : fireB (M : Int) es d (scrR (M : Int) es d (q : Int)) = redR (M : Int) es d (q : Int)
  red : isRedB (M : Int) es (redR (M : Int) es d (q : Int)) (q : Int) = true
  tok : fireOk (M : Int) es d t = true
  el : (fireB (M : Int) es d t).length = M
  eok : burnOk (M : Int) es (fireB (M : Int) es d t) (q : Int) = true
  same : redR (M : Int) es (fireB (M : Int) es d t) (q : Int) = redR (M : Int) es d (q : Int)
  chip : (redR (M : Int) es d (q : Int))[q]? = some (chipR (M : Int) es d (q : Int))
  most : mostB (M : Int) es (redR (M : Int) es d (q : Int)) (q : Int) = []
theorem redLaw {M : Nat} {es : List (Int × Int)} {d t : List Int} {q : Nat} (hg : graphB (M : Int) es = true) (hM5 : M ≤ 5) (hel : es.length ≤ 8) (hdl : d.length = M) (hbd : ∀ x ∈ d, -2 ≤ x ∧ x ≤ 6) (htl : t.length = M) (hbt : ∀ x ∈ t, -3 ≤ x ∧ x ≤ 3) (hq : q < M) (hex : ∃ f, IsRed M es d q f) : RedLaw M es d t q := by
  obtain ⟨f0, hf0⟩ := hex
  have hf := redF_is hf0
  have hes : ∀ e ∈ es, 0 ≤ e.1 ∧ e.1 < e.2 ∧ e.2 < (M : Int) := fun e he => all_edge (graphB_all hg).1 he
  have hcut : Cut M es := (graphB_all hg).2.cut
  obtain ⟨f, hff⟩ : ∃ f, f = redF M es d q := ⟨_, rfl⟩
  rw [← hff] at hf
  have hgd := getD_bound hbd (by omega) (by omega)
  have hsm := fun u hu => hf.small hcut hM5 hq hel (fun u _ => hgd u) (fun u => by have := hgd u; omega) hes u hu
  have ok : burnOk (M : Int) es d (q : Int) = true := by
    unfold burnOk
    rw [divB_of hg hdl (fun x hx => by have := hbd x hx; omega), vB_t (by omega)]
    rfl
  have hR : redR (M : Int) es d (q : Int) = chipsOf M (Dv d es f) := by rw [redR_t ok, Int.toNat_natCast, Int.toNat_natCast, hff]
  have hS : scrR (M : Int) es d (q : Int) = chipsOf M f := by rw [scrR_t ok, Int.toNat_natCast, Int.toNat_natCast, hff]
  have hRb : ∀ x ∈ chipsOf M (Dv d es f), -60 ≤ x ∧ x ≤ 60 := chipsOf_all (by omega) (by omega) fun u hu => (hsm u hu).1
  have hRd := divB_of hg (chipsOf_len M (Dv d es f)) hRb
  have hb1 := (burntL_all (M := M) (es := es) (d := chipsOf M (Dv d es f)) (q := (q : Int)) (by omega)).1
  have hnd : hasDebt (chipsOf M (Dv d es f)) (q : Int) = false := (debtor_none fun v hv => by
    rw [chipsOf_len] at hv
    unfold debtAt
    by_cases e : v = q
    · simp [e]
    · rw [(chipsOf_get hv (by have := (hsm v hv).1; omega)).2]
      have := hf.pos v hv e
      simp; omega).2
  have rok : burnOk (M : Int) es (chipsOf M (Dv d es f)) (q : Int) = true := by
    unfold burnOk
    rw [hRd, vB_t (by omega)]
    rfl
  have tok : fireOk (M : Int) es d t = true := by
    unfold fireOk
    rw [divB_of hg hdl (fun x hx => by have := hbd x hx; omega), divB_of hg htl (fun x hx => by have := hbt x hx; omega)]
    rfl
  have hgt := getD_bound hbt (by omega) (by omega)
  have hE : fireB (M : Int) es d t = chipsOf M (Dv d es fun i => t.getD i 0) := by
    rw [fireB_t tok, Int.toNat_natCast]
    unfold firedB
    exact chipsOf_eq fun u _ => by rw [Dv, terms_F]
  have hEb : ∀ u, u < M → -60 ≤ Dv d es (fun i => t.getD i 0) u ∧ Dv d es (fun i => t.getD i 0) u ≤ 60 := fun u _ => by
    have h1 := termsF_bound (f := fun i => t.getD i 0) (K := 3) u M (fun v _ => hgt v) es hes
    have h2 := hgd u
    unfold Dv
    omega
  have eok : burnOk (M : Int) es (chipsOf M (Dv d es fun i => t.getD i 0)) (q : Int) = true := by
    unfold burnOk
    rw [divB_of hg (chipsOf_len _ _) (chipsOf_all (by omega) (by omega) hEb), vB_t (by omega)]
    rfl
  obtain ⟨hD, hIs⟩ := hf.fired (e := chipsOf M (Dv d es fun i => t.getD i 0)) (t := fun i => t.getD i 0) hq (fun u hu => (chipsOf_get hu (by have := hEb u hu; omega)).2) (fun u _ => by have := hgt u; omega) (fun u hu => (hsm u hu).2)
  have hlen : (burntL M es (chipsOf M (Dv d es f)) (q : Int)).length = M := hf.all
  refine ⟨ok, by rw [hR, chipsOf_len], by rw [hS, chipsOf_len], ?_, ?_, ?_, ?_, tok, by rw [hE, chipsOf_len], by rw [hE]; exact eok, ?_, ?_, ?_⟩
  · rw [hS]
    unfold fireOk
    rw [divB_of hg hdl (fun x hx => by have := hbd x hx; omega), divB_of hg (chipsOf_len M f) (chipsOf_all (by omega) (by omega) fun u hu => (hsm u hu).2)]
    rfl
  · rw [hS]
    have hz := hf.zero
    have := (chipsOf_get (M := M) (f := f) hq (by omega)).1
    rw [this, hz]
  · have h1 : fireOk (M : Int) es d (chipsOf M f) = true := by
      unfold fireOk
      rw [divB_of hg hdl (fun x hx => by have := hbd x hx; omega), divB_of hg (chipsOf_len M f) (chipsOf_all (by omega) (by omega) fun u hu => (hsm u hu).2)]
      rfl
    rw [hS, hR, fireB_t h1, Int.toNat_natCast]
    exact fired_Dv hes hf.bound
  · rw [hR]
    unfold isRedB
    rw [rok, hnd, burnR_t rok, Int.toNat_natCast, hlen]
    simp
  · rw [hE, hR, redR_t eok, Int.toNat_natCast, Int.toNat_natCast]
    have h1 := (redF_eq hIs hq (by omega) (fun u => by
      have := getD_bound (chipsOf_all (lo := -60) (hi := 60) (by omega) (by omega) hEb) (by omega) (by omega) u
      omega) hes).2
    rw [← h1]
    exact chipsOf_eq hD
  · unfold chipR
    rw [hR, Int.toNat_natCast]
    have h1 := chipsOf_get (M := M) (f := Dv d es f) hq (by have := (hsm q hq).1; omega)
    rw [h1.1, h1.2]
  · rw [hR, mostB_t (by unfold mostOk; rw [rok, hnd]; rfl), Int.toNat_natCast]
    rw [List.eq_nil_iff_forall_not_mem]
    intro x hx
    obtain ⟨h1, h2, h3⟩ := sparedL_mem.1 hx
    have h4 := hb1.full hlen x.toNat (by omega)
    rw [show ((x.toNat : Nat) : Int) = x by omega] at h4
    exact h3 h4
end Go.Proofs.Ytbojbifpaecbcaa
