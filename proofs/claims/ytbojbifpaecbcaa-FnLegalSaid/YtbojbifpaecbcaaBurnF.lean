/- BurnFrom and IsReduced: both sides, and what they call. -/
import Derived.Test.YtbojbifpaecbcaaBurnS
import Derived.Test.YtbojbifpaecbcaaDiv
import Derived.Test.YtbojbifpaecbcaaFireB
namespace Go.Proofs.Ytbojbifpaecbcaa
open Go.RowKit

/-- the box of the graph that came in, and all that lay before, as they were -/
structure GB (w wc : World) (N : Int) (A : Option Addr) (c : Nat) (es : List (Int × Int)) : Prop where
  box : Blk wc w.heap.size 25 #[.int .i64 N, .slice A es.length c]
  old : Below w.heap.size w wc
section
variable {w wc wd : World} {N : Int} {A : Option Addr} {c : Nat} {es : List (Int × Int)}
theorem GB.c0 (h : GB w wc N A c es) : wc.cell? ⟨w.heap.size, 0, none⟩ = some (.int .i64 N) := by rw [h.box.cell]; rfl
theorem GB.c1 (h : GB w wc N A c es) : wc.cell? ⟨w.heap.size, 1, none⟩ = some (.slice A es.length c) := by rw [h.box.cell]; rfl
theorem GB.next (h : GB w wc N A c es) (hb : Below wc.heap.size wc wd) : GB w wd N A c es := ⟨h.box.below hb h.box.lt, h.old.trans (hb.mono h.old.size)⟩
theorem GB.lt (h : GB w wc N A c es) : w.heap.size < wc.heap.size := h.box.lt
theorem GB.start (w : World) (N : Int) (A : Option Addr) (c : Nat) (es : List (Int × Int)) : GB w (w.alloc (.cells #[.int .i64 N, .slice A es.length c] 25)) N A c es := ⟨Blk.new w _ _, (Below.refl _ _).alloc (Nat.le_refl _) _⟩
end
theorem div_limsB {N : Int} {es : List (Int × Int)} {d : List Int} (h : divB 60 N es d = true) : ∃ M : Nat, N = (M : Int) ∧ 0 < M ∧ M ≤ 6 ∧ es.length ≤ 12 ∧ d.length = M ∧ (∀ e ∈ es, 0 ≤ e.1 ∧ e.1 < e.2 ∧ e.2 < (M : Int)) ∧ (∀ u, -60 ≤ d.getD u 0 ∧ d.getD u 0 ≤ 60) ∧ Conn (M : Int) es := by
  obtain ⟨h1, h2, h3⟩ := divB_all h
  obtain ⟨h4, h5⟩ := graphB_all h1
  obtain ⟨h6, h7, h8⟩ := edgesB_lims h4
  obtain ⟨M, rfl⟩ : ∃ M : Nat, N = (M : Int) := ⟨N.toNat, by omega⟩
  refine ⟨M, rfl, by omega, by omega, h8, by omega, fun e he => all_edge h4 he, fun u => ?_, h5⟩
  cases hu : d[u]? with
  | none => simp [List.getD, hu]
  | some x =>
    have := h3 x (List.mem_of_getElem? hu)
    simp [List.getD, hu]
    omega
noncomputable def burnOk (N : Int) (es : List (Int × Int)) (d : List Int) (q : Int) : Bool := divB 60 N es d && vB q N
noncomputable def burnR (N : Int) (es : List (Int × Int)) (d : List Int) (q : Int) : List Int := if burnOk N es d q = true then burntL N.toNat es d q else []
theorem burnR_f {N : Int} {es : List (Int × Int)} {d : List Int} {q : Int} (h : burnOk N es d q = false) : burnR N es d q = [] := by rw [burnR, if_neg (by rw [h]; decide)]
theorem burnR_t {N : Int} {es : List (Int × Int)} {d : List Int} {q : Int} (h : burnOk N es d q = true) : burnR N es d q = burntL N.toNat es d q := by rw [burnR, if_pos h]
theorem burnR_len (N : Int) (es : List (Int × Int)) (d : List Int) (q : Int) : (burnR N es d q).length ≤ 6 := by
  cases h : burnOk N es d q with
  | false => rw [burnR_f h]; simp
  | true =>
    rw [burnR_t h]
    simp only [burnOk, Bool.and_eq_true] at h
    obtain ⟨M, rfl, h0, h6, _⟩ := div_limsB h.1
    have hv := vB_iff h.2
    have := (burntL_all (M := M) (es := es) (d := d) (q := q) hv).1.len
    simp only [Int.toNat_natCast]
    omega

set_option maxRecDepth 100000 in
set_option maxHeartbeats 1000000 in
theorem l05Ok_any (N : Int) (A D : Option Addr) (c cd : Nat) (es : List (Int × Int)) (d : List Int) (q : Int) (w : World) (hn : es.length ≤ 1048576) (hd : d.length ≤ 1048576) (hE : EdgeS w w.heap.size A es) (hS : IntS w w.heap.size D d) :
    Calls Try.prog 89 #[.agg #[.int .i64 N, .slice A es.length c], .slice D d.length cd, .int .i64 q] w fun e w' => e = .returned (.bool (burnOk N es d q)) ∧ Below w.heap.size w w' := by
  have HE := Lib.hid hE
  have HS := Lib.hid hS
  clear hE hS
  have G0 := GB.start w N A c es
  have HD := fun w h1 h2 => Lib.hid (specDiv N A D c cd es d w hn hd h1 h2)
  cases h1 : divB 60 N es d with
  | false =>
    rw [h1] at HD
    rw [show burnOk N es d q = false by simp [burnOk, h1]]
    clear h1
    go_enter Try.func89, Try.ntmps89
    go_wp2_with fail
    refine (HD _ (HE.out.up_ G0.old) (HS.out.up_ G0.old)).out.mono ?_
    rintro e w1 ⟨rfl, hb1⟩
    have G1 := Lib.hid (G0.next hb1)
    clear G0 hb1
    go_wp2
    go_ret
    exact ⟨rfl, G1.out.old⟩
  | true =>
    rw [h1] at HD
    obtain ⟨M, rfl, hM0, hM6, -⟩ := div_limsB h1
    rw [show burnOk (M : Int) es d q = vB q (M : Int) by simp [burnOk, h1]]
    have HL := fun w => Lib.hid (l01In_any q 0 ((M : Int) - 1) w)
    simp only [inB_vB] at HL
    clear h1
    go_enter Try.func89, Try.ntmps89
    go_wp2_with fail
    refine (HD _ (HE.out.up_ G0.old) (HS.out.up_ G0.old)).out.mono ?_
    rintro e w1 ⟨rfl, hb1⟩
    have G1 := Lib.hid (G0.next hb1)
    have c0 := G1.out.c0
    clear G0 hb1
    go_wp2_with fail
    refine (HL _).out.mono ?_
    rintro e w2 ⟨rfl, rfl⟩
    go_wp2
    go_ret
    exact ⟨ret_boolE (by simp), G1.out.old⟩

set_option maxRecDepth 100000 in
set_option maxHeartbeats 2000000 in
theorem specBurnFrom (N : Int) (A D : Option Addr) (c cd : Nat) (es : List (Int × Int)) (d : List Int) (q : Int) (w : World) (hn : es.length ≤ 1048576) (hd : d.length ≤ 1048576) (hE : EdgeS w w.heap.size A es) (hS : IntS w w.heap.size D d) :
    Calls Try.prog 42 #[.agg #[.int .i64 N, .slice A es.length c], .slice D d.length cd, .int .i64 q] w (GivesIntsOk w (burnR N es d q) (burnOk N es d q)) := by
  have HE := Lib.hid hE
  have HS := Lib.hid hS
  clear hE hS
  have G0 := GB.start w N A c es
  have HD := fun w h1 h2 => Lib.hid (l05Ok_any N A D c cd es d q w hn hd h1 h2)
  cases h1 : burnOk N es d q with
  | false =>
    rw [h1] at HD
    rw [burnR_f h1]
    clear h1
    go_enter Try.func42, Try.ntmps42
    go_wp2_with fail
    refine (HD _ (HE.out.up_ G0.old) (HS.out.up_ G0.old)).out.mono ?_
    rintro e w1 ⟨rfl, hb1⟩
    have G1 := Lib.hid (G0.next hb1)
    clear G0 hb1
    go_wp2
    go_ret2
    exact ⟨none, 0, rfl, OwnI.nil _ _ _, G1.out.old⟩
  | true =>
    rw [h1] at HD
    rw [burnR_t h1]
    simp only [burnOk, Bool.and_eq_true] at h1
    obtain ⟨M, rfl, hM0, hM6, hn12, hdl, hes, -⟩ := div_limsB h1.1
    obtain ⟨hq0, hq1⟩ := vB_iff h1.2
    obtain ⟨q, rfl⟩ : ∃ v : Nat, q = (v : Int) := ⟨q.toNat, by omega⟩
    rw [Int.toNat_natCast]
    have HB := fun w h1 h2 => Lib.hid (l05Burn_any A D c cd M q es d w hM0 hM6 (by omega) hdl hn12 hes h1 h2)
    clear h1 hes hdl
    go_enter Try.func42, Try.ntmps42
    go_wp2_with fail
    refine (HD _ (HE.out.up_ G0.old) (HS.out.up_ G0.old)).out.mono ?_
    rintro e w1 ⟨rfl, hb1⟩
    have G1 := Lib.hid (G0.next hb1)
    have c0 := G1.out.c0
    have c1 := G1.out.c1
    clear G0 hb1
    go_wp2_with fail
    refine (HB _ (HE.out.up_ G1.out.old) (HS.out.up_ G1.out.old)).out.mono ?_
    rintro e w2 ⟨A2, c2, rfl, ho, hb2⟩
    have G2 := Lib.hid (G1.out.next hb2)
    have HO := Lib.hid (ho.mono G1.out.old.size)
    clear ho hb2 c0 c1
    go_wp2
    go_ret2
    exact ⟨A2, c2, rfl, HO.out, G2.out.old⟩

set_option maxRecDepth 100000 in
set_option maxHeartbeats 2000000 in
theorem implBurnFrom (N : Int) (A D : Option Addr) (c cd : Nat) (es : List (Int × Int)) (d : List Int) (q : Int) (w : World) (hn : es.length ≤ 1048576) (hd : d.length ≤ 1048576) (hE : EdgeS w w.heap.size A es) (hS : IntS w w.heap.size D d) :
    Calls Try.prog 33 #[.agg #[.int .i64 N, .slice A es.length c], .slice D d.length cd, .int .i64 q] w (GivesIntsOk w (burnR N es d q) (burnOk N es d q)) := by
  have HE := Lib.hid hE
  have HS := Lib.hid hS
  clear hE hS
  have G0 := GB.start w N A c es
  have HD := fun w h1 h2 => Lib.hid (implDiv N A D c cd es d w hn hd h1 h2)
  have HV := fun w => Lib.hid (hasVertex_any N (.slice A es.length c) q w ⟨_, _, _, rfl⟩)
  cases h1 : divB 60 N es d with
  | false =>
    rw [h1] at HD
    have h0 : burnOk N es d q = false := by simp [burnOk, h1]
    rw [burnR_f h0, h0]
    clear h1 h0 HV
    go_enter Try.func33, Try.ntmps33
    go_wp2_with fail
    refine (HD _ (HE.out.up_ G0.old) (HS.out.up_ G0.old)).out.mono ?_
    rintro e w1 ⟨rfl, hb1⟩
    have G1 := Lib.hid (G0.next hb1)
    clear G0 hb1
    go_wp2
    go_ret2
    exact ⟨none, 0, rfl, OwnI.nil _ _ _, G1.out.old⟩
  | true =>
    rw [h1] at HD
    cases h2 : vB q N with
    | false =>
      rw [h2] at HV
      have h0 : burnOk N es d q = false := by simp [burnOk, h2]
      rw [burnR_f h0, h0]
      clear h1 h2 h0
      go_enter Try.func33, Try.ntmps33
      go_wp2_with fail
      refine (HD _ (HE.out.up_ G0.old) (HS.out.up_ G0.old)).out.mono ?_
      rintro e w1 ⟨rfl, hb1⟩
      have G1 := Lib.hid (G0.next hb1)
      have c0 := G1.out.c0
      have c1 := G1.out.c1
      clear G0 hb1
      go_wp2_with fail
      refine (HV _).out.mono ?_
      rintro e w2 ⟨rfl, hb2⟩
      have G2 := Lib.hid (G1.out.next hb2)
      clear hb2 c0 c1
      go_wp2
      go_ret2
      exact ⟨none, 0, rfl, OwnI.nil _ _ _, G2.out.old⟩
    | true =>
      rw [h2] at HV
      have h0 : burnOk N es d q = true := by simp [burnOk, h1, h2]
      rw [burnR_t h0, h0]
      obtain ⟨M, rfl, hM0, hM6, hn12, hdl, hes, -⟩ := div_limsB h1
      obtain ⟨hq0, hq1⟩ := vB_iff h2
      obtain ⟨q, rfl⟩ : ∃ v : Nat, q = (v : Int) := ⟨q.toNat, by omega⟩
      have HES := Lib.hid hes
      have HDL := Lib.hid hdl
      have hd0 : 0 < d.length := by omega
      rw [Int.toNat_natCast]
      clear h0 h1 h2 hdl hes
      go_enter Try.func33, Try.ntmps33
      go_wp2_with fail
      refine (HD _ (HE.out.up_ G0.old) (HS.out.up_ G0.old)).out.mono ?_
      rintro e w1 ⟨rfl, hb1⟩
      have G1 := Lib.hid (G0.next hb1)
      have c0 := G1.out.c0
      have c1 := G1.out.c1
      clear G0 hb1
      go_wp2_with fail
      refine (HV _).out.mono ?_
      rintro e w2 ⟨rfl, hb2⟩
      have G2 := Lib.hid (G1.out.next hb2)
      clear hb2 c0 c1
      have c0 := G2.out.c0
      have c1 := G2.out.c1
      go_wp2_with fail
      refine (boardOf_any _ _ _ _ _ _ d _ hd0 hd (HS.out.up_ G2.out.old)).mono ?_
      rintro e w3 ⟨p, g, cg, rfl, hbrd, hch, hg, hpg, hb3⟩
      have G3 := Lib.hid (G2.out.next hb3)
      rw [HDL.out] at hbrd
      have HBR := Lib.hid hbrd
      have HCH := Lib.hid hch
      have hp3 := hbrd.lt
      clear hbrd hch hb3 c0 c1
      go_wp2_with fail
      refine (burn_any p g cg c M q A es d w3 hM0 hM6 (by omega) HDL.out hn12 HES.out hp3 HBR.out HCH.out (HE.out.up_ G3.out.old)).mono ?_
      rintro e w4 ⟨base, pf, gh, ch, h, rfl, hz, hh, hb4⟩
      have G4 := Lib.hid (G3.out.next hb4)
      have hs3 := G3.out.old.size
      obtain ⟨O, co, hbx, hown⟩ := hz.box
      have q1 : w4.cell? ⟨pf, 1, none⟩ = some (.slice O (burntL M es d (q : Int)).length co) := by rw [hbx.cell]; rfl
      have HO := Lib.hid ((OwnI.of_own hown).mono (base' := w.heap.size) (by have := hz.lo1; have := hz.lt1; omega))
      clear hz hh hb4 hbx hown
      go_wp2
      go_ret2
      exact ⟨O, co, rfl, HO.out, G4.out.old⟩

end Go.Proofs.Ytbojbifpaecbcaa
