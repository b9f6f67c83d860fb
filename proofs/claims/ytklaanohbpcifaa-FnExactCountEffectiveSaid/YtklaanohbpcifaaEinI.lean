/- EffectiveIn: the program's side. -/
import Derived.Test.YtklaanohbpcifaaEfi
import Derived.Test.YtklaanohbpcifaaCol
import Derived.Test.YtklaanohbpcifaaCntS
namespace Go.Proofs.Ytklaanohbpcifaa
open Go.RowKit

theorem einB_lim {N : Int} {es : List (Int × Int)} {d : List Int} (h1 : divB 60 N es d = true) (h2 : degB d d.length ≤ 7) : (einB N es d).length ≤ 262144 := by
  obtain ⟨M, rfl, hM0, hM6, -⟩ := div_limsB h1
  cases h : winB (M : Int) es d with
  | false => rw [einB_n h]; simp
  | true =>
    rw [einB_t (ein_yes h1 h2) h, Int.toNat_natCast]
    have h3 := List.length_filter_le (fun e => decide (redR (M : Int) es d 0 = redR (M : Int) es e 0)) (effB M (degB d d.length))
    have h4 := effB_small (n := M) hM6 h2
    unfold einL
    omega
set_option maxRecDepth 100000 in
set_option maxHeartbeats 4000000 in
theorem implLis (N : Int) (A D : Option Addr) (c cd : Nat) (es : List (Int × Int)) (d : List Int) (w : World) (hn : es.length ≤ 1048576) (hd : d.length ≤ 1048576) (hE : EdgeS w w.heap.size A es) (hS : IntS w w.heap.size D d) :
    Calls Try.prog 23 #[.agg #[.int .i64 N, .slice A es.length c], .slice D d.length cd] w (fun e w' => e = .returned (.bool (einOk N es d)) ∧ Below w.heap.size w w') := by
  have HE := Lib.hid hE
  have HS := Lib.hid hS
  clear hE hS
  have G0 := GB.start w N A c es
  have HD := fun w h1 h2 => Lib.hid (implDiv N A D c cd es d w hn hd h1 h2)
  have HX := fun w h1 => Lib.hid (implDeg D cd d w hd h1)
  cases h1 : divB 60 N es d with
  | false =>
    rw [h1] at HD
    rw [ein_no1 h1]
    clear h1 HX
    go_enter Try.func23, Try.ntmps23
    go_wp2_with fail
    refine (HD _ (HE.out.up_ G0.old) (HS.out.up_ G0.old)).out.mono ?_
    rintro e w1 ⟨rfl, hb1⟩
    have G1 := Lib.hid (G0.next hb1)
    clear G0 hb1
    go_wp2
    go_ret
    exact ⟨rfl, G1.out.old⟩
  | true =>
    rw [h1] at HD
    by_cases h2 : degB d d.length ≤ 7
    · rw [ein_yes h1 h2]
      obtain ⟨k, hk⟩ : ∃ k, k = degB d d.length := ⟨_, rfl⟩
      rw [← hk] at HX h2
      have h3 : decide (k ≤ 7) = true := decide_eq_true h2
      clear h1 hk
      go_enter Try.func23, Try.ntmps23
      go_wp2_with fail
      refine (HD _ (HE.out.up_ G0.old) (HS.out.up_ G0.old)).out.mono ?_
      rintro e w1 ⟨rfl, hb1⟩
      have G1 := Lib.hid (G0.next hb1)
      clear G0 hb1
      go_wp2_with fail
      refine (HX _ (HS.out.up_ G1.out.old)).out.mono ?_
      rintro e w2 ⟨rfl, hb2⟩
      have G2 := Lib.hid (G1.out.next hb2)
      clear hb2 G1
      go_wp2
      go_ret
      exact ⟨by simp, G2.out.old⟩
    · rw [ein_no2 h2]
      obtain ⟨k, hk⟩ : ∃ k, k = degB d d.length := ⟨_, rfl⟩
      rw [← hk] at HX h2
      have h3 : decide (k ≤ 7) = false := decide_eq_false h2
      clear h1 hk
      go_enter Try.func23, Try.ntmps23
      go_wp2_with fail
      refine (HD _ (HE.out.up_ G0.old) (HS.out.up_ G0.old)).out.mono ?_
      rintro e w1 ⟨rfl, hb1⟩
      have G1 := Lib.hid (G0.next hb1)
      clear G0 hb1
      go_wp2_with fail
      refine (HX _ (HS.out.up_ G1.out.old)).out.mono ?_
      rintro e w2 ⟨rfl, hb2⟩
      have G2 := Lib.hid (G1.out.next hb2)
      clear hb2 G1
      go_wp2
      go_ret
      exact ⟨by simp, G2.out.old⟩
/-- the iterator's value, where it is made -/
theorem ein_made (N : Int) (A D : Option Addr) (c cd : Nat) (es : List (Int × Int)) (d : List Int) (w w2 w3 : World) (h : einOk N es d = true) (hb0 : Below w.heap.size w w2) (hE : EdgeS w w.heap.size A es) (hS : IntS w w.heap.size D d)
    (hw3 : w3 = (w2.alloc (.cells #[.int .i64 N, .slice A es.length c] 30)).alloc (.cells #[.slice D d.length cd] 25)) :
    Itr w.heap.size 37 #[.pointer (some ⟨w2.heap.size, 0, none⟩), .pointer (some ⟨w2.heap.size + 1, 0, none⟩)] (einB N es d) w3 ∧ Below w2.heap.size w2 w3 := by
  have hb3 : Below w2.heap.size w2 w3 := by rw [hw3]; exact ((Below.refl _ _).alloc (Nat.le_refl _) _).alloc (by simp) _
  have k1 : w3.heap[w2.heap.size]? = some (.cells #[.int .i64 N, .slice A es.length c] 30 (0, 0)) := by
    rw [hw3]
    exact (Below.heap_alloc _ _ _ (by simp)).trans (World.alloc_heap_new w2 _)
  have k2 : Boxed w3 (w2.heap.size + 1) 25 (.slice D d.length cd) := by
    have h := Boxed.new (w2.alloc (.cells #[.int .i64 N, .slice A es.length c] 30)) 25 (.slice D d.length cd)
    rw [World.size_alloc] at h
    rw [hw3]
    exact h
  simp only [einOk, Bool.and_eq_true, decide_eq_true_eq] at h
  obtain ⟨M, rfl, -⟩ := div_limsB h.1
  have hb : Below w.heap.size w w3 := hb0.trans (hb3.mono hb0.size)
  exact ⟨efi_itr w.heap.size M _ _ A D c cd es d w3 h.1 h.2 k1 k2 hb.size (EdgeS.keep hE (fun p hp => hb.cell hp) (Nat.le_refl _)) (IntS.keep hS (fun p hp => hb.cell hp) (Nat.le_refl _)), hb3⟩
theorem ein_enters : ∀ args w, (callFunc 37 args).run Try.prog w = .ok (.enter 37 args) w := enters_of Try.func37 (by kernel_rfl) rfl
theorem einB_lim2 {N : Int} {es : List (Int × Int)} {d : List Int} (h : einOk N es d = true) : (einB N es d).length ≤ 262144 := by
  simp only [einOk, Bool.and_eq_true, decide_eq_true_eq] at h
  exact einB_lim h.1 h.2
set_option maxRecDepth 100000 in
set_option maxHeartbeats 4000000 in
theorem implEin (N : Int) (A D : Option Addr) (c cd : Nat) (es : List (Int × Int)) (d : List Int) (w : World) (hn : es.length ≤ 1048576) (hd : d.length ≤ 1048576) (hE : EdgeS w w.heap.size A es) (hS : IntS w w.heap.size D d) :
    Calls Try.prog 14 #[.agg #[.int .i64 N, .slice A es.length c], .slice D d.length cd] w (GivesSSOk w (einB N es d) (einOk N es d)) := by
  have HE := Lib.hid hE
  have HS := Lib.hid hS
  clear hE hS
  have G0 := GB.start w N A c es
  have HL := fun w h1 h2 => Lib.hid (implLis N A D c cd es d w hn hd h1 h2)
  cases h1 : einOk N es d with
  | false =>
    rw [h1] at HL
    rw [einB_f h1]
    clear h1
    go_enter Try.func14, Try.ntmps14
    go_wp2_with fail
    refine (HL _ (HE.out.up_ G0.old) (HS.out.up_ G0.old)).out.mono ?_
    rintro e w1 ⟨rfl, hb1⟩
    have G1 := Lib.hid (G0.next hb1)
    clear G0 hb1
    go_wp2
    go_ret2
    exact ⟨none, 0, rfl, OwnSS.nil _ _ _ _, G1.out.old⟩
  | true =>
    rw [h1] at HL
    have HLM := Lib.hid (einB_lim2 h1)
    have HMD := Lib.hid (fun w2 w3 hb0 h3 => ein_made N A D c cd es d w w2 w3 h1 hb0 HE.out HS.out h3)
    obtain ⟨L, hL⟩ : ∃ L, L = einB N es d := ⟨_, rfl⟩
    rw [← hL] at HLM HMD ⊢
    clear h1 hL
    go_enter Try.func14, Try.ntmps14
    go_wp2_with fail
    refine (HL _ (HE.out.up_ G0.old) (HS.out.up_ G0.old)).out.mono ?_
    rintro e w2 ⟨rfl, hb2⟩
    have G2 := Lib.hid (G0.next hb2)
    have c0 := G2.out.c0
    have c1 := G2.out.c1
    clear hb2 HL G0
    go_wp2_with fail
    refine (effectiveIn_any _ _ _ _ _ _ _ _).mono ?_
    rintro e w3 ⟨rfl, hw3⟩
    obtain ⟨hit, hb3⟩ := HMD.out w2 w3 G2.out.old hw3
    have G3 := Lib.hid (G2.out.next hb3)
    have HC := Lib.hid (collect_any w.heap.size _ _ L w3 ein_enters hit G3.out.old.size HLM.out)
    clear hb3 hw3 c0 c1 hit
    go_wp2_with fail
    refine HC.out.mono ?_
    rintro e w4 ⟨A4, c4, rfl, ho, hb4⟩
    have HO := Lib.hid (ho.mono G3.out.old.size)
    have G4 := Lib.hid (G3.out.next hb4)
    clear ho hb4
    go_wp2
    go_ret2
    exact ⟨A4, c4, rfl, HO.out, G4.out.old⟩
end Go.Proofs.Ytklaanohbpcifaa
