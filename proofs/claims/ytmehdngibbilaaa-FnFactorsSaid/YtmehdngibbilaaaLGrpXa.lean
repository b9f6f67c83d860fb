/- The critical group: the program's helpers: hasDegreeZero, zeroClass, classAdder and its function, reduce as one list. -/
import Derived.Test.YtmehdngibbilaaaLBQ
import Derived.Test.YtmehdngibbilaaaLBJ
import Derived.Test.YtmehdngibbilaaaLBO
namespace Go.Proofs.Ytmehdngibbilaaa
open Go.RowKit

set_option maxRecDepth 100000 in
set_option maxHeartbeats 1000000 in
theorem hasZero_any (N : Int) (A D : Option Addr) (c cd : Nat) (es : List (Int × Int)) (a : List Int) (w : World) (hn : es.length ≤ 1048576) (hd : a.length ≤ 1048576) (hE : EdgeS w w.heap.size A es) (hS : IntS w w.heap.size D a) :
    Calls Try.prog 68 #[.agg #[.int .i64 N, .slice A es.length c], .slice D a.length cd] w fun e w' => e = .returned (.bool (zeroB N es a)) ∧ Below w.heap.size w w' := by
  have HE := Lib.hid hE
  have HS := Lib.hid hS
  have G0 := GB.start w N A c es
  have HD := fun w h1 h2 => Lib.hid (implDiv N A D c cd es a w hn hd h1 h2)
  have HX := fun w h1 => Lib.hid (implDeg D cd a w hd h1)
  unfold zeroB
  clear hE hS
  cases h1 : divB 60 N es a with
  | false =>
    rw [h1] at HD
    clear h1
    go_enter Try.func68, Try.ntmps68
    go_wp2_with fail
    refine (HD _ (HE.out.up_ G0.old) (HS.out.up_ G0.old)).out.mono ?_
    rintro e w1 ⟨rfl, hb1⟩
    have G1 := Lib.hid (G0.next hb1)
    clear G0 hb1
    go_wp2
    go_ret
    exact ⟨ret_boolE rfl, G1.out.old⟩
  | true =>
    rw [h1] at HD
    obtain ⟨p, hp⟩ : ∃ x, x = degB a a.length := ⟨_, rfl⟩
    rw [← hp] at HX ⊢
    clear h1 hp
    go_enter Try.func68, Try.ntmps68
    go_wp2_with fail
    refine (HD _ (HE.out.up_ G0.old) (HS.out.up_ G0.old)).out.mono ?_
    rintro e w1 ⟨rfl, hb1⟩
    have G1 := Lib.hid (G0.next hb1)
    clear G0 hb1
    go_wp2_with fail
    refine (HX _ (HS.out.up_ G1.out.old)).out.mono ?_
    rintro e w2 ⟨rfl, hb2⟩
    have G2 := Lib.hid (G1.out.next hb2)
    clear hb2
    go_wp2
    go_ret
    exact ⟨ret_boolE (by rw [Bool.eq_iff_iff]; simp), G2.out.old⟩
set_option maxRecDepth 100000 in
set_option maxHeartbeats 1000000 in
theorem zeroClass_any (M : Nat) (G : Value) (w : World) (hM : M ≤ 6) :
    Calls Try.prog 71 #[.agg #[.int .i64 (M : Int), G]] w fun e w' => e = .returned (.slice (some ⟨w.heap.size + 1, 0, none⟩) M M) ∧ Chips w' (w.heap.size + 1) (List.replicate M 0) ∧ w'.heap.size = w.heap.size + 2 ∧ Below w.heap.size w w' := by
  have hmk := make_ints M (by omega)
  go_enter Try.func71, Try.ntmps71
  go_wp2
  go_ret
  refine ⟨by simp, ?_, by simp, ((Below.refl _ _).alloc (Nat.le_refl _) _).alloc (by simp) _⟩
  have h := Chips.of_blk (Blk.new (w.alloc (.cells #[.int .i64 (M : Int), G] 25)) 3 (intCells (List.replicate M 0)).toArray)
  rw [World.size_alloc] at h
  exact h
theorem classAdder_any (G : Value) (H : Value) (w : World) :
    Calls Try.prog 70 #[.agg #[G, H]] w fun e w' => e = .returned (.func (.func 116) #[] #[.pointer (some ⟨w.heap.size, 0, none⟩)]) ∧ w' = w.alloc (.cells #[G, H] 25) := by
  go_enter Try.func70, Try.ntmps70
  go_wp2
  go_ret
  exact ⟨rfl, rfl⟩
theorem implRdc {m : Nat} {es : List (Int × Int)} {d : List Int} (hG : GrL m es) (A D : Option Addr) (c cd : Nat) (w : World) (hl : d.length = m + 1) (hd : ∀ u, -300 ≤ gt d u ∧ gt d u ≤ 300) (hE : EdgeS w w.heap.size A es) (hS : IntS w w.heap.size D d) :
    Calls Try.prog 118 #[.agg #[.int .i64 ((m + 1 : Nat) : Int), .slice A es.length c], .slice D d.length cd, .int .i64 0] w fun e w' => ∃ (pr pb g cg : Nat), e = .returned (.pointer (some ⟨pr, 0, none⟩)) ∧ w'.cell? ⟨pr, 0, none⟩ = some (.pointer (some ⟨pb, 0, none⟩)) ∧ w'.cell? ⟨pb, 1, none⟩ = some (.slice (some ⟨g, 0, none⟩) (m + 1) cg) ∧ OwnI w' w.heap.size (some ⟨g, 0, none⟩) (rdc (m + 1) es d) ∧ Below w.heap.size w w' := by
  refine (reduceW_any A D c cd (m + 1) 0 es d w (by omega) (by have := hG.m5; omega) (by omega) hl hG.n12 hG.ed hd hG.cut hE hS).mono ?_
  rintro e w' ⟨pr, pb, g, cg, gs, f, rfl, hf, hr, hN, hb⟩
  refine ⟨pr, pb, g, cg, rfl, by rw [hr.red.cell]; rfl, by rw [hr.brd.cell]; rfl, ?_, hb⟩
  have hx := hr.chips.own (base := w.heap.size) hN.n1
  rw [rdc, ← (redF_eq hf (by omega) hG.n12 (fun u => by have := hd u; unfold gt at this; omega) hG.ed).2]
  exact hx
structure Adr (W : World) (M : Nat) (es : List (Int × Int)) (A : Option Addr) (c G : Nat) : Prop where
  box : Blk W G 25 #[.int .i64 (M : Int), .slice A es.length c]
  es : EdgeS W W.heap.size A es
theorem Adr.next {W W' : World} {M : Nat} {es : List (Int × Int)} {A : Option Addr} {c G : Nat} (h : Adr W M es A c G) (hb : Below W.heap.size W W') : Adr W' M es A c G := ⟨h.box.below hb h.box.lt, h.es.up_ hb⟩
structure SumL (m : Nat) (a b : List Int) : Prop where
  la : a.length = m + 1
  lb : b.length = m + 1
  ba : ∀ u, -150 ≤ gt a u ∧ gt a u ≤ 150
  bb : ∀ u, -150 ≤ gt b u ∧ gt b u ≤ 150
set_option maxRecDepth 100000 in
set_option maxHeartbeats 2000000 in
theorem adder_any {m : Nat} {es : List (Int × Int)} {a b : List Int} (hG : GrL m es) (A D F : Option Addr) (c cd cf G : Nat) (w : World) (hs : SumL m a b) (hA : Adr w (m + 1) es A c G) (hS : IntS w w.heap.size D a) (hT : IntS w w.heap.size F b) :
    Calls Try.prog 116 #[.slice D (m + 1) cd, .slice F (m + 1) cf, .pointer (some ⟨G, 0, none⟩)] w fun e w' => ∃ (A2 : Option Addr) (c2 : Nat), e = .returned (.slice A2 (m + 1) c2) ∧ OwnI w' w.heap.size A2 (rdc (m + 1) es (plusL (m + 1) a b)) ∧ Below w.heap.size w w' := by
  have hadd : addB a b = plusL (m + 1) a b := add_plus hs.la hs.lb (fun u => by have := hs.ba u; omega) (fun u => by have := hs.bb u; omega)
  have hsm : sameLen a b = true := by rw [sameLen, hs.la, hs.lb]; simp
  have HP := Lib.hid (implAddD D F cd cf a b w (by rw [hs.la]; have := hG.m5; omega) (by rw [hs.lb]; have := hG.m5; omega) hS hT)
  have hpl := plusL_len (m + 1) a b
  rw [hs.la, hs.lb, hadd, hsm] at HP
  have HR := Lib.hid (fun (X : Option Addr) (cx : Nat) (W : World) (h1 : EdgeS W W.heap.size A es) (h2 : IntS W W.heap.size X (plusL (m + 1) a b)) => implRdc hG A X c cx W hpl (fun u => by have := plusL_lim (M := m + 1) hs.ba hs.bb (by omega) (by omega) u; omega) h1 h2)
  have HB := Lib.hid hA
  obtain ⟨S, hSS⟩ : ∃ x, x = plusL (m + 1) a b := ⟨_, rfl⟩
  rw [← hSS] at HP HR hpl ⊢
  obtain ⟨R, hRR⟩ : ∃ x, x = rdc (m + 1) es S := ⟨_, rfl⟩
  rw [← hRR] at HR ⊢
  have HPL := Lib.hid hpl
  clear hs hA hS hT hadd hsm hSS hRR hpl hG
  generalize m + 1 = M at *
  go_enter Try.func116, Try.ntmps116
  go_wp2_with fail
  refine HP.out.mono ?_
  rintro e w1 ⟨A1, c1, rfl, ho, hb1⟩
  have HB1 := Lib.hid (HB.out.next hb1)
  have HO := Lib.hid ho.ints
  have HB01 := Lib.hid hb1
  have c0 : w1.cell? ⟨G, 0, none⟩ = some (.int .i64 (M : Int)) := by rw [HB1.out.box.cell]; rfl
  have c1 : w1.cell? ⟨G, 1, none⟩ = some (.slice A es.length c) := by rw [HB1.out.box.cell]; rfl
  clear ho hb1
  go_wp2_with fail
  refine (HR.out A1 _ _ HB1.out.es HO.out).mono ?_
  rintro e w2 ⟨pr, pb, g, cg, rfl, q1, q2, ho, hb2⟩
  have HO2 := Lib.hid (ho.mono HB01.out.size)
  have HB2 := Lib.hid (HB01.out.trans (hb2.mono HB01.out.size))
  clear ho hb2 c0 c1
  go_wp2
  go_ret
  exact ⟨_, _, rfl, HO2.out, HB2.out⟩
end Go.Proofs.Ytmehdngibbilaaa
