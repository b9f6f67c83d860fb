/- ChipsAt: both sides. -/
import Derived.Test.YtcfhkaefjhcglaaRedO
namespace Go.Proofs.Ytcfhkaefjhcglaa
open Go.RowKit

noncomputable def chipR (N : Int) (es : List (Int × Int)) (d : List Int) (q : Int) : Int := (redR N es d q).getD q.toNat 0
theorem chipR_f {N : Int} {es : List (Int × Int)} {d : List Int} {q : Int} (h : burnOk N es d q = false) : chipR N es d q = 0 := by rw [chipR, redR_f h]; simp
set_option maxRecDepth 100000 in
set_option maxHeartbeats 2000000 in
theorem specChip (N : Int) (A D : Option Addr) (c cd : Nat) (es : List (Int × Int)) (d : List Int) (q : Int) (w : World) (hn : es.length ≤ 1048576) (hd : d.length ≤ 1048576) (hE : EdgeS w w.heap.size A es) (hS : IntS w w.heap.size D d) :
    Calls Try.prog 89 #[.agg #[.int .i64 N, .slice A es.length c], .slice D d.length cd, .int .i64 q] w fun e w' => e = .returned (.tuple #[.int .i64 (chipR N es d q), .bool (burnOk N es d q)]) ∧ Below w.heap.size w w' := by
  have HE := Lib.hid hE
  have HS := Lib.hid hS
  clear hE hS
  have G0 := GB.start w N A c es
  have HD := fun w h1 h2 => Lib.hid (specRed N A D c cd es d q w hn hd h1 h2)
  cases h1 : burnOk N es d q with
  | false =>
    rw [h1] at HD
    rw [chipR_f h1]
    clear h1
    go_enter Try.func89, Try.ntmps89
    go_wp2_with fail
    refine (HD _ (HE.out.up_ G0.old) (HS.out.up_ G0.old)).out.mono ?_
    rintro e w1 ⟨A1, c1, rfl, _, hb1⟩
    have G1 := Lib.hid (G0.next hb1)
    clear G0 hb1
    go_wp2
    go_ret2
    exact ⟨rfl, G1.out.old⟩
  | true =>
    rw [h1] at HD
    have hl := (redR_len N es d q).1
    have h2 := h1
    simp only [burnOk, Bool.and_eq_true] at h2
    obtain ⟨M, rfl, hM0, hM6, -⟩ := div_limsB h2.1
    obtain ⟨hq0, hq1⟩ := vB_iff h2.2
    obtain ⟨q, rfl⟩ : ∃ v : Nat, q = (v : Int) := ⟨q.toNat, by omega⟩
    have hlen : (redR (M : Int) es d (q : Int)).length = M := by rw [redR_t h1, chipsOf_len, Int.toNat_natCast]
    rw [chipR]
    obtain ⟨zs, hzs⟩ : ∃ x, x = redR (M : Int) es d (q : Int) := ⟨_, rfl⟩
    rw [← hzs] at HD hlen hl ⊢
    have hqz : q < zs.length := by omega
    have hq2 : (q : Int) < (zs.length : Int) := by omega
    rw [Int.toNat_natCast]
    clear h1 h2 hzs hlen
    go_enter Try.func89, Try.ntmps89
    go_wp2_with fail
    refine (HD _ (HE.out.up_ G0.old) (HS.out.up_ G0.old)).out.mono ?_
    rintro e w1 ⟨A1, c1, rfl, ho, hb1⟩
    have G1 := Lib.hid (G0.next hb1)
    obtain ⟨b1, o1, x, rfl, hb1', he, hc0⟩ := ho.ints.at_ hqz
    have HX := Lib.hid (show zs.getD q 0 = x by simp [List.getD, he])
    clear G0 hb1 he ho
    go_wp2
    go_ret2
    exact ⟨by rw [HX.out]; rfl, G1.out.old⟩
end Go.Proofs.Ytcfhkaefjhcglaa
