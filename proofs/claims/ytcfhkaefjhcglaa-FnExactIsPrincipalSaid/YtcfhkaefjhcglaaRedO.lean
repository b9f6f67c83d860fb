/- ReducedOf and ReducingScript: both sides. -/
import Derived.Test.YtcfhkaefjhcglaaRdS
import Derived.Test.YtcfhkaefjhcglaaRdR
namespace Go.Proofs.Ytcfhkaefjhcglaa
open Go.RowKit

noncomputable def redR (N : Int) (es : List (Int × Int)) (d : List Int) (q : Int) : List Int := if burnOk N es d q = true then chipsOf N.toNat (Dv d es (redF N.toNat es d q.toNat)) else []
noncomputable def scrR (N : Int) (es : List (Int × Int)) (d : List Int) (q : Int) : List Int := if burnOk N es d q = true then chipsOf N.toNat (redF N.toNat es d q.toNat) else []
theorem redR_f {N : Int} {es : List (Int × Int)} {d : List Int} {q : Int} (h : burnOk N es d q = false) : redR N es d q = [] := by rw [redR, if_neg (by rw [h]; decide)]
theorem redR_t {N : Int} {es : List (Int × Int)} {d : List Int} {q : Int} (h : burnOk N es d q = true) : redR N es d q = chipsOf N.toNat (Dv d es (redF N.toNat es d q.toNat)) := by rw [redR, if_pos h]
theorem scrR_f {N : Int} {es : List (Int × Int)} {d : List Int} {q : Int} (h : burnOk N es d q = false) : scrR N es d q = [] := by rw [scrR, if_neg (by rw [h]; decide)]
theorem scrR_t {N : Int} {es : List (Int × Int)} {d : List Int} {q : Int} (h : burnOk N es d q = true) : scrR N es d q = chipsOf N.toNat (redF N.toNat es d q.toNat) := by rw [scrR, if_pos h]
theorem redR_len (N : Int) (es : List (Int × Int)) (d : List Int) (q : Int) : (redR N es d q).length ≤ 6 ∧ (scrR N es d q).length ≤ 6 := by
  cases h : burnOk N es d q with
  | false => rw [redR_f h, scrR_f h]; simp
  | true =>
    rw [redR_t h, scrR_t h, chipsOf_len, chipsOf_len]
    simp only [burnOk, Bool.and_eq_true] at h
    obtain ⟨M, rfl, h0, h6, _⟩ := div_limsB h.1
    simp only [Int.toNat_natCast]
    omega
theorem red_same {M : Nat} {es : List (Int × Int)} {d : List Int} {q : Nat} {f : Nat → Int} (hf : IsRed M es d q f) (hq : q < M) (hn : es.length ≤ 12) (hd : ∀ u, -60 ≤ d.getD u 0 ∧ d.getD u 0 ≤ 60) (hes : ∀ e ∈ es, 0 ≤ e.1 ∧ e.1 < e.2 ∧ e.2 < (M : Int)) :
    chipsOf M f = chipsOf M (redF M es d q) ∧ chipsOf M (Dv d es f) = chipsOf M (Dv d es (redF M es d q)) := redF_eq hf hq hn (fun u => by have := hd u; omega) hes

set_option maxRecDepth 100000 in
set_option maxHeartbeats 2000000 in
theorem specRed (N : Int) (A D : Option Addr) (c cd : Nat) (es : List (Int × Int)) (d : List Int) (q : Int) (w : World) (hn : es.length ≤ 1048576) (hd : d.length ≤ 1048576) (hE : EdgeS w w.heap.size A es) (hS : IntS w w.heap.size D d) :
    Calls Try.prog 91 #[.agg #[.int .i64 N, .slice A es.length c], .slice D d.length cd, .int .i64 q] w (GivesIntsOk w (redR N es d q) (burnOk N es d q)) := by
  have HE := Lib.hid hE
  have HS := Lib.hid hS
  clear hE hS
  have G0 := GB.start w N A c es
  have HD := fun w h1 h2 => Lib.hid (l05Ok_any N A D c cd es d q w hn hd h1 h2)
  cases h1 : burnOk N es d q with
  | false =>
    rw [h1] at HD
    rw [redR_f h1]
    clear h1
    go_enter Try.func91, Try.ntmps91
    go_wp2_with fail
    refine (HD _ (HE.out.up_ G0.old) (HS.out.up_ G0.old)).out.mono ?_
    rintro e w1 ⟨rfl, hb1⟩
    have G1 := Lib.hid (G0.next hb1)
    clear G0 hb1
    go_wp2
    go_ret2
    exact ⟨none, 0, rfl, OwnI.nil _ _ _, G1.out.old⟩
  | true =>
    rw [h1] at HD
    rw [redR_t h1]
    simp only [burnOk, Bool.and_eq_true] at h1
    obtain ⟨M, rfl, hM0, hM6, hn12, hdl, hes, hdb, hcn⟩ := div_limsB h1.1
    obtain ⟨hq0, hq1⟩ := vB_iff h1.2
    obtain ⟨q, rfl⟩ : ∃ v : Nat, q = (v : Int) := ⟨q.toNat, by omega⟩
    rw [Int.toNat_natCast, Int.toNat_natCast]
    have HB := fun w h1 h2 => Lib.hid (l05Reduce_any A D c cd M q es d w hM0 hM6 (by omega) hdl hn12 hes hdb hcn.cut h1 h2)
    have HQ := Lib.hid (fun (f : Nat → Int) (hf : IsRed M es d q f) => red_same hf (by omega) hn12 hdb hes)
    clear h1 hes hdl hdb hcn
    go_enter Try.func91, Try.ntmps91
    go_wp2_with fail
    refine (HD _ (HE.out.up_ G0.old) (HS.out.up_ G0.old)).out.mono ?_
    rintro e w1 ⟨rfl, hb1⟩
    have G1 := Lib.hid (G0.next hb1)
    have c0 := G1.out.c0
    have c1 := G1.out.c1
    clear G0 hb1
    go_wp2_with fail
    refine (HB _ (HE.out.up_ G1.out.old) (HS.out.up_ G1.out.old)).out.mono ?_
    rintro e w2 ⟨A1, A2, c1, c2, f, rfl, hf, ho1, ho2, hb2⟩
    have G2 := Lib.hid (G1.out.next hb2)
    have E := HQ.out f hf
    rw [E.2] at ho1
    rw [E.1] at ho2
    have HO1 := Lib.hid (ho1.mono G1.out.old.size)
    have HO2 := Lib.hid (ho2.mono G1.out.old.size)
    clear ho1 ho2 hb2 c0 E hf
    go_wp2
    go_ret2
    exact ⟨A1, c1, by rw [chipsOf_len]; rfl, HO1.out, G2.out.old⟩

set_option maxRecDepth 100000 in
set_option maxHeartbeats 2000000 in
theorem implRed (N : Int) (A D : Option Addr) (c cd : Nat) (es : List (Int × Int)) (d : List Int) (q : Int) (w : World) (hn : es.length ≤ 1048576) (hd : d.length ≤ 1048576) (hE : EdgeS w w.heap.size A es) (hS : IntS w w.heap.size D d) :
    Calls Try.prog 92 #[.agg #[.int .i64 N, .slice A es.length c], .slice D d.length cd, .int .i64 q] w (GivesIntsOk w (redR N es d q) (burnOk N es d q)) := by
  have HE := Lib.hid hE
  have HS := Lib.hid hS
  clear hE hS
  have G0 := GB.start w N A c es
  have HD := fun w h1 h2 => Lib.hid (implDiv N A D c cd es d w hn hd h1 h2)
  have HV := fun w => Lib.hid (hasVertex_any N (.slice A es.length c) q w ⟨_, _, _, rfl⟩)
  cases h1 : divB 60 N es d with
  | false =>
    rw [h1] at HD
    have h0 : burnOk N es d q = false := by simp [burnOk, h1]
    rw [redR_f h0, h0]
    clear h1 h0 HV
    go_enter Try.func92, Try.ntmps92
    go_wp2_with fail
    refine (HD _ (HE.out.up_ G0.old) (HS.out.up_ G0.old)).out.mono ?_
    rintro e w1 ⟨rfl, hb1⟩
    have G1 := Lib.hid (G0.next hb1)
    clear G0 hb1
    go_wp2
    go_ret2
    exact ⟨none, 0, rfl, OwnI.nil _ _ _, G1.out.old⟩
  | true =>
    rw [h1] at HD
    cases h2 : vB q N with
    | false =>
      rw [h2] at HV
      have h0 : burnOk N es d q = false := by simp [burnOk, h2]
      rw [redR_f h0, h0]
      clear h1 h2 h0
      go_enter Try.func92, Try.ntmps92
      go_wp2_with fail
      refine (HD _ (HE.out.up_ G0.old) (HS.out.up_ G0.old)).out.mono ?_
      rintro e w1 ⟨rfl, hb1⟩
      have G1 := Lib.hid (G0.next hb1)
      have c0 := G1.out.c0
      have c1 := G1.out.c1
      clear G0 hb1
      go_wp2_with fail
      refine (HV _).out.mono ?_
      rintro e w2 ⟨rfl, hb2⟩
      have G2 := Lib.hid (G1.out.next hb2)
      clear hb2 c0 c1
      go_wp2
      go_ret2
      exact ⟨none, 0, rfl, OwnI.nil _ _ _, G2.out.old⟩
    | true =>
      rw [h2] at HV
      have h0 : burnOk N es d q = true := by simp [burnOk, h1, h2]
      rw [redR_t h0, h0]
      obtain ⟨M, rfl, hM0, hM6, hn12, hdl, hes, hdb, hcn⟩ := div_limsB h1
      obtain ⟨hq0, hq1⟩ := vB_iff h2
      obtain ⟨q, rfl⟩ : ∃ v : Nat, q = (v : Int) := ⟨q.toNat, by omega⟩
      rw [Int.toNat_natCast, Int.toNat_natCast]
      have HQ := Lib.hid (fun (f : Nat → Int) (hf : IsRed M es d q f) => red_same hf (by omega) hn12 hdb hes)
      have HB := fun w h1 h2 => Lib.hid (reduce_any A D c cd M q es d w hM0 hM6 (by omega) hdl hn12 hes hdb hcn.cut h1 h2)
      clear h0 h1 h2 hdl hes hdb hcn
      go_enter Try.func92, Try.ntmps92
      go_wp2_with fail
      refine (HD _ (HE.out.up_ G0.old) (HS.out.up_ G0.old)).out.mono ?_
      rintro e w1 ⟨rfl, hb1⟩
      have G1 := Lib.hid (G0.next hb1)
      have c0 := G1.out.c0
      have c1 := G1.out.c1
      clear G0 hb1
      go_wp2_with fail
      refine (HV _).out.mono ?_
      rintro e w2 ⟨rfl, hb2⟩
      have G2 := Lib.hid (G1.out.next hb2)
      clear hb2 c0 c1
      have c0 := G2.out.c0
      have c1 := G2.out.c1
      go_wp2_with fail
      refine (HB _ (HE.out.up_ G2.out.old) (HS.out.up_ G2.out.old)).out.mono ?_
      rintro e w3 ⟨pr, pb, g, cg, gs, f, rfl, hf, hr, hN, hb3⟩
      have G3 := Lib.hid (G2.out.next hb3)
      have E := HQ.out f hf
      have b0 : w3.cell? ⟨pr, 0, none⟩ = some (.pointer (some ⟨pb, 0, none⟩)) := by rw [hr.red.cell]; rfl
      have b1 : w3.cell? ⟨pb, 1, none⟩ = some (.slice (some ⟨g, 0, none⟩) M cg) := by rw [hr.brd.cell]; rfl
      have HO := Lib.hid (hr.chips.own (base := w.heap.size) (Nat.le_trans G2.out.old.size hN.n1))
      rw [E.2] at HO
      clear hr hN E hb3 c0 c1
      go_wp2
      go_ret2
      exact ⟨some ⟨g, 0, none⟩, cg, by rw [chipsOf_len]; rfl, HO.out, G3.out.old⟩



end Go.Proofs.Ytcfhkaefjhcglaa
