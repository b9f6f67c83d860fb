/- BurnFrom and IsReduced: both sides, and what they call. -/
import Derived.Test.YtcfhkaefjhcglaaBurnS
import Derived.Test.YtcfhkaefjhcglaaDiv
import Derived.Test.YtcfhkaefjhcglaaFireB
namespace Go.Proofs.Ytcfhkaefjhcglaa
open Go.RowKit

/-- the box of the graph that came in, and all that lay before, as they were -/
structure GB (w wc : World) (N : Int) (A : Option Addr) (c : Nat) (es : List (Int × Int)) : Prop where
  box : Blk wc w.heap.size 25 #[.int .i64 N, .slice A es.length c]
  old : Below w.heap.size w wc
section
variable {w wc wd : World} {N : Int} {A : Option Addr} {c : Nat} {es : List (Int × Int)}
theorem GB.c0 (h : GB w wc N A c es) : wc.cell? ⟨w.heap.size, 0, none⟩ = some (.int .i64 N) := by rw [h.box.cell]; rfl
theorem GB.c1 (h : GB w wc N A c es) : wc.cell? ⟨w.heap.size, 1, none⟩ = some (.slice A es.length c) := by rw [h.box.cell]; rfl
theorem GB.next (h : GB w wc N A c es) (hb : Below wc.heap.size wc wd) : GB w wd N A c es := ⟨h.box.below hb h.box.lt, h.old.trans (hb.mono h.old.size)⟩
theorem GB.lt (h : GB w wc N A c es) : w.heap.size < wc.heap.size := h.box.lt
theorem GB.start (w : World) (N : Int) (A : Option Addr) (c : Nat) (es : List (Int × Int)) : GB w (w.alloc (.cells #[.int .i64 N, .slice A es.length c] 25)) N A c es := ⟨Blk.new w _ _, (Below.refl _ _).alloc (Nat.le_refl _) _⟩
end
theorem div_limsB {N : Int} {es : List (Int × Int)} {d : List Int} (h : divB 60 N es d = true) : ∃ M : Nat, N = (M : Int) ∧ 0 < M ∧ M ≤ 6 ∧ es.length ≤ 12 ∧ d.length = M ∧ (∀ e ∈ es, 0 ≤ e.1 ∧ e.1 < e.2 ∧ e.2 < (M : Int)) ∧ (∀ u, -60 ≤ d.getD u 0 ∧ d.getD u 0 ≤ 60) ∧ Conn (M : Int) es := by
  obtain ⟨h1, h2, h3⟩ := divB_all h
  obtain ⟨h4, h5⟩ := graphB_all h1
  obtain ⟨h6, h7, h8⟩ := edgesB_lims h4
  obtain ⟨M, rfl⟩ : ∃ M : Nat, N = (M : Int) := ⟨N.toNat, by omega⟩
  refine ⟨M, rfl, by omega, by omega, h8, by omega, fun e he => all_edge h4 he, fun u => ?_, h5⟩
  cases hu : d[u]? with
  | none => simp [List.getD, hu]
  | some x =>
    have := h3 x (List.mem_of_getElem? hu)
    simp [List.getD, hu]
    omega
noncomputable def burnOk (N : Int) (es : List (Int × Int)) (d : List Int) (q : Int) : Bool := divB 60 N es d && vB q N
noncomputable def burnR (N : Int) (es : List (Int × Int)) (d : List Int) (q : Int) : List Int := if burnOk N es d q = true then burntL N.toNat es d q else []
theorem burnR_f {N : Int} {es : List (Int × Int)} {d : List Int} {q : Int} (h : burnOk N es d q = false) : burnR N es d q = [] := by rw [burnR, if_neg (by rw [h]; decide)]
theorem burnR_t {N : Int} {es : List (Int × Int)} {d : List Int} {q : Int} (h : burnOk N es d q = true) : burnR N es d q = burntL N.toNat es d q := by rw [burnR, if_pos h]
theorem burnR_len (N : Int) (es : List (Int × Int)) (d : List Int) (q : Int) : (burnR N es d q).length ≤ 6 := by
  cases h : burnOk N es d q with
  | false => rw [burnR_f h]; simp
  | true =>
    rw [burnR_t h]
    simp only [burnOk, Bool.and_eq_true] at h
    obtain ⟨M, rfl, h0, h6, _⟩ := div_limsB h.1
    have hv := vB_iff h.2
    have := (burntL_all (M := M) (es := es) (d := d) (q := q) hv).1.len
    simp only [Int.toNat_natCast]
    omega

set_option maxRecDepth 100000 in
set_option maxHeartbeats 1000000 in
theorem l05Ok_any (N : Int) (A D : Option Addr) (c cd : Nat) (es : List (Int × Int)) (d : List Int) (q : Int) (w : World) (hn : es.length ≤ 1048576) (hd : d.length ≤ 1048576) (hE : EdgeS w w.heap.size A es) (hS : IntS w w.heap.size D d) :
    Calls Try.prog 121 #[.agg #[.int .i64 N, .slice A es.length c], .slice D d.length cd, .int .i64 q] w fun e w' => e = .returned (.bool (burnOk N es d q)) ∧ Below w.heap.size w w' := by
  have HE := Lib.hid hE
  have HS := Lib.hid hS
  clear hE hS
  have G0 := GB.start w N A c es
  have HD := fun w h1 h2 => Lib.hid (specDiv N A D c cd es d w hn hd h1 h2)
  cases h1 : divB 60 N es d with
  | false =>
    rw [h1] at HD
    rw [show burnOk N es d q = false by simp [burnOk, h1]]
    clear h1
    go_enter Try.func121, Try.ntmps121
    go_wp2_with fail
    refine (HD _ (HE.out.up_ G0.old) (HS.out.up_ G0.old)).out.mono ?_
    rintro e w1 ⟨rfl, hb1⟩
    have G1 := Lib.hid (G0.next hb1)
    clear G0 hb1
    go_wp2
    go_ret
    exact ⟨rfl, G1.out.old⟩
  | true =>
    rw [h1] at HD
    obtain ⟨M, rfl, hM0, hM6, -⟩ := div_limsB h1
    rw [show burnOk (M : Int) es d q = vB q (M : Int) by simp [burnOk, h1]]
    have HL := fun w => Lib.hid (l01In_any q 0 ((M : Int) - 1) w)
    simp only [inB_vB] at HL
    clear h1
    go_enter Try.func121, Try.ntmps121
    go_wp2_with fail
    refine (HD _ (HE.out.up_ G0.old) (HS.out.up_ G0.old)).out.mono ?_
    rintro e w1 ⟨rfl, hb1⟩
    have G1 := Lib.hid (G0.next hb1)
    have c0 := G1.out.c0
    clear G0 hb1
    go_wp2_with fail
    refine (HL _).out.mono ?_
    rintro e w2 ⟨rfl, rfl⟩
    go_wp2
    go_ret
    exact ⟨ret_boolE (by simp), G1.out.old⟩



end Go.Proofs.Ytcfhkaefjhcglaa
