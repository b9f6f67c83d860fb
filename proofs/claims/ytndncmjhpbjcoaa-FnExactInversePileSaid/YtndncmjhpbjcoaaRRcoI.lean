/- RecurrentOf: the program's side. -/
import Derived.Test.YtndncmjhpbjcoaaRRcoS
import Derived.Test.YtndncmjhpbjcoaaRPilX
import Derived.Test.YtndncmjhpbjcoaaRPilZ
import Derived.Test.YtndncmjhpbjcoaaRBJ
import Derived.Test.YtndncmjhpbjcoaaRAnyH
set_option linter.all false
namespace Go.Proofs.Ytndncmjhpbjcoaa
open Go.RowKit

set_option maxHeartbeats 1000000 in
theorem miss_any (A C : Option Addr) (ca cc M : Nat) (xs ys : List Int) (w : World) (hM : M ≤ 6) (hx : xs.length = M) (hy : ys.length = M) (h1 : IntS w w.heap.size A xs) (h2 : IntS w w.heap.size C ys) :
    Calls Try.prog 106 #[.slice A M ca, .slice C M cc] w (fun e w' => ∃ (F : Option Addr) (cf : Nat), e = .returned (.slice F M cf) ∧ OwnI w' w.heap.size F (addB ys (negB xs)) ∧ Below w.heap.size w w') := by
  have HN := Lib.hid (implNeg A ca xs w (by omega) h1)
  rw [hx] at HN
  have HNL := Lib.hid (show (negB xs).length = M by rw [negB_length, hx])
  have HAL := Lib.hid (show (addB ys (negB xs)).length = M by rw [addB, if_pos (by rw [hy, negB_length, hx]), sumsB_length, hy])
  have HA := fun (X : Option Addr) (cx : Nat) (W : World) (k1 : IntS W W.heap.size C ys) (k2 : IntS W W.heap.size X (negB xs)) => Lib.hid (implAddD C X cc cx ys (negB xs) W (by omega) (by rw [negB_length]; omega) k1 k2)
  rw [hy, negB_length, hx] at HA
  have H2 := Lib.hid h2
  obtain ⟨s, hs⟩ : ∃ s, s = addB ys (negB xs) := ⟨_, rfl⟩
  obtain ⟨b, hb⟩ : ∃ s, s = sameLen ys (negB xs) := ⟨_, rfl⟩
  rw [← hs, ← hb] at HA
  rw [← hs] at HAL ⊢
  clear h1 h2 hx hy hs hb
  go_enter Try.func106, Try.ntmps106
  go_wp2_with fail
  refine HN.out.mono ?_
  rintro e w1 ⟨A1, c1, rfl, ho1, hb1⟩
  rw [HNL.out]
  have HO1 := Lib.hid ho1.ints
  have HB1 := Lib.hid hb1
  clear ho1 hb1 HN
  go_wp2_with fail
  refine (HA A1 c1 _ (H2.out.up_ HB1.out) HO1.out).out.mono ?_
  rintro e w2 ⟨A2, c2, rfl, ho2, hb2⟩
  rw [HAL.out]
  have HO2 := Lib.hid (ho2.mono HB1.out.size)
  have HB2 := Lib.hid (HB1.out.trans (hb2.mono HB1.out.size))
  clear ho2 hb2 HA
  go_wp2
  go_ret
  exact ⟨A2, c2, rfl, HO2.out, HB2.out⟩
theorem ownI_far1 {w : World} {B X o : Nat} {A : Option Addr} {zs : List Int} (h : OwnI w B A zs) (hx : X < B) (u : Value) : OwnI (w.setCell ⟨X, o, none⟩ u) B A zs := fun hp => by
  obtain ⟨g, off, rfl, h1, h2, h3⟩ := h hp
  refine ⟨g, off, rfl, h1, by simpa [World.setCell] using h2, fun i z hz => ?_⟩
  have hbl := Below.heap_setCell w ⟨X, o, none⟩ u g (by show g ≠ X; omega)
  exact ⟨(World.cell?_of_block (a := ⟨g, off + i, none⟩) hbl).trans (h3 i z hz).1, (World.frozen?_of_block (a := ⟨g, off + i, none⟩) hbl).trans (h3 i z hz).2⟩
theorem keepG2 {w W : World} {p r : Addr} {a b : Value} {B X : Nat} (h : W.cell? p = some a ∧ W.cell? r = some b ∧ Below B w W) (hp : p.block ≠ X ∧ r.block ≠ X) (hX : B ≤ X) (o : Nat) (u : Value) :
    (W.setCell ⟨X, o, none⟩ u).cell? p = some a ∧ (W.setCell ⟨X, o, none⟩ u).cell? r = some b ∧ Below B w (W.setCell ⟨X, o, none⟩ u) := by
  obtain ⟨h1, h2, h3⟩ := h
  have hbl : ∀ k, k ≠ X → (W.setCell ⟨X, o, none⟩ u).heap[k]? = W.heap[k]? := fun k hk => Below.heap_setCell _ _ _ _ (by simpa using hk)
  exact ⟨(World.cell?_of_block (hbl _ hp.1)).trans h1, (World.cell?_of_block (hbl _ hp.2)).trans h2, h3.setCell (p := ⟨X, o, none⟩) hX u⟩
theorem keepG1 {w W W' : World} {p r : Addr} {a b : Value} {B : Nat} (h : W.cell? p = some a ∧ W.cell? r = some b ∧ Below B w W) (hb : Below W.heap.size W W') (hB : B ≤ w.heap.size) : W'.cell? p = some a ∧ W'.cell? r = some b ∧ Below B w W' := by
  obtain ⟨h1, h2, h3⟩ := h
  exact ⟨(hb.cell (World.block_lt_of_cell? W p h1)).trans h1, (hb.cell (World.block_lt_of_cell? W r h2)).trans h2, h3.trans (hb.mono (Nat.le_trans hB h3.size))⟩
theorem five_facts {w : World} {g : Nat} {t : TypeId} {a b c d e : Value} (hb : Blk w g t #[a, b, c, d, e]) : w.cell? ⟨g, 0, none⟩ = some a ∧ w.cell? ⟨g, 1, none⟩ = some b ∧ w.cell? ⟨g, 2, none⟩ = some c ∧ w.cell? ⟨g, 3, none⟩ = some d ∧ w.cell? ⟨g, 4, none⟩ = some e ∧ ∀ o, w.frozen? ⟨g, o, none⟩ = false :=
  ⟨by rw [hb.cell]; rfl, by rw [hb.cell]; rfl, by rw [hb.cell]; rfl, by rw [hb.cell]; rfl, by rw [hb.cell]; rfl, fun o => hb.frozen o⟩
set_option maxRecDepth 100000 in
set_option maxHeartbeats 2000000 in
theorem cfg_any (A D : Option Addr) (c cd M k : Nat) (es : List (Int × Int)) (w : World) (hg : graphB (M : Int) es = true) (hk : k < M) (hn : es.length ≤ 12) (hE : EdgeS w w.heap.size A es) :
    Calls Try.prog 66 #[.agg #[.int .i64 (M : Int), .slice A es.length c], .slice D M cd, .int .i64 (k : Int)] w (fun e w' => ∃ (F : Option Addr) (cf : Nat), e = .returned (.agg #[.slice D M cd, .slice F M cf, .int .i64 (M : Int), .slice A es.length c, .int .i64 (k : Int)]) ∧ OwnI w' w.heap.size F (fullTo es k M) ∧ Below w.heap.size w w') := by
  have HE := Lib.hid hE
  have hfo : fullOk (M : Int) es (k : Int) = true := by rw [fullOk, hg, vB_t (by omega)]; rfl
  have HF := fun (W : World) (hb : Below w.heap.size w W) => Lib.hid (implFull (M : Int) A c es (k : Int) W (by omega) (HE.out.up_ hb))
  rw [fullC_t hfo] at HF
  have HFL := Lib.hid (fullTo_len es k M)
  clear hE hfo hg
  go_enter Try.func66, Try.ntmps66
  go_wp2_with fail
  obtain ⟨W0, hW0⟩ : ∃ X : World, X = (w.alloc (Obj.cells #[.int .i64 (M : Int), .slice A es.length c] 25)).alloc (Obj.cells #[.slice none 0 0, .slice none 0 0, .int .i64 0, .slice none 0 0, .int .i64 0] 85) := ⟨_, rfl⟩
  rw [← hW0]
  have hb0 : Below w.heap.size w W0 := by rw [hW0]; exact ((Below.refl _ _).alloc (Nat.le_refl _) _).alloc (by simp) _
  have hG : Blk W0 w.heap.size 25 #[.int .i64 (M : Int), .slice A es.length c] := by rw [hW0]; exact (Blk.new w _ _).alloc _
  have HX := Lib.hid (show Blk W0 (w.heap.size + 1) 85 #[.slice none 0 0, .slice none 0 0, .int .i64 0, .slice none 0 0, .int .i64 0] by
    have h := Blk.new (w.alloc (Obj.cells #[.int .i64 (M : Int), .slice A es.length c] 25)) 85 #[.slice none 0 0, .slice none 0 0, .int .i64 0, .slice none 0 0, .int .i64 0]
    rw [World.size_alloc, ← hW0] at h
    exact h)
  have x0 := (box_facts hG).1
  have x1 := (box_facts hG).2.1
  have hsz : W0.heap.size = w.heap.size + 2 := by rw [hW0]; simp
  have HP0 := Lib.hid (show W0.drew.cell? ⟨w.heap.size, 0, none⟩ = some (.int .i64 (M : Int)) ∧ W0.drew.cell? ⟨w.heap.size, 1, none⟩ = some (.slice A es.length c) ∧ Below w.heap.size w W0.drew from ⟨x0, x1, hb0.drew⟩)
  have HXD := Lib.hid (show Blk W0.drew (w.heap.size + 1) 85 #[.slice none 0 0, .slice none 0 0, .int .i64 0, .slice none 0 0, .int .i64 0] from HX.out)
  have HXL := Lib.hid HX.out.lt
  clear hW0 hG HX
  go_region_held3 (fun w' => w'.cell? ⟨w.heap.size, 0, none⟩ = some (.int .i64 (M : Int)) ∧ w'.cell? ⟨w.heap.size, 1, none⟩ = some (.slice A es.length c) ∧ Below w.heap.size w w')
    (first
      | with_reducible exact HP0.out
      | with_reducible exact keepG1 (by assumption) hb3 (Nat.le_refl _)
      | with_reducible exact keepG2 (keepG2 (keepG2 (keepG2 (keepG2 (by assumption) (by constructor <;> (simp only; omega)) (by omega) _ _) (by constructor <;> (simp only; omega)) (by omega) _ _) (by constructor <;> (simp only; omega)) (by omega) _ _) (by constructor <;> (simp only; omega)) (by omega) _ _) (by constructor <;> (simp only; omega)) (by omega) _ _)
    ((go_at_call 104; refine (HF _ (And.right (And.right (by assumption)))).out.mono ?_; rintro e w3 ⟨F, cf, rfl, ho3, hb3⟩; obtain ⟨b0, b1, b2, b3, b4, b5⟩ := five_facts (HXD.out.below hb3 HXL.out); have b50 := b5 0; have b51 := b5 1; have b52 := b5 2; have b53 := b5 3; have b54 := b5 4))
  have hx3 := HXD.out.below hb3 HXL.out
  have hb3' : Below w.heap.size w w3 := hb0.drew.trans (hb3.mono (show w.heap.size ≤ W0.drew.heap.size from hb0.size))
  have hb3s := hb3.size
  rw [HFL.out]
  obtain ⟨W4, hW4⟩ : ∃ X : World, X = ((((w3.setCell ⟨w.heap.size + 1, 0, none⟩ (.slice D M cd)).setCell ⟨w.heap.size + 1, 1, none⟩ (.slice F M cf)).setCell ⟨w.heap.size + 1, 2, none⟩ (.int .i64 (M : Int))).setCell ⟨w.heap.size + 1, 3, none⟩ (.slice A es.length c)).setCell ⟨w.heap.size + 1, 4, none⟩ (.int .i64 (k : Int)) := ⟨_, rfl⟩
  have hx4 : Blk W4 (w.heap.size + 1) 85 #[.slice D M cd, .slice F M cf, .int .i64 (M : Int), .slice A es.length c, .int .i64 (k : Int)] := by rw [hW4]; exact ((((hx3.set_ 0 _).set_ 1 _).set_ 2 _).set_ 3 _).set_ 4 _
  have hlo : w.heap.size + 1 < W0.drew.heap.size := by show w.heap.size + 1 < W0.heap.size; omega
  have HO4 := Lib.hid (show OwnI W4 w.heap.size F (fullTo es k M) by
    rw [hW4]
    exact (ownI_far1 (ownI_far1 (ownI_far1 (ownI_far1 (ownI_far1 ho3 hlo _) hlo _) hlo _) hlo _) hlo _).mono (show w.heap.size ≤ W0.drew.heap.size from hb0.size))
  have HB4 := Lib.hid (show Below w.heap.size w W4 by
    rw [hW4]
    exact ((((hb3'.setCell (p := ⟨w.heap.size + 1, 0, none⟩) (by simp only; omega) _).setCell (p := ⟨w.heap.size + 1, 1, none⟩) (by simp only; omega) _).setCell (p := ⟨w.heap.size + 1, 2, none⟩) (by simp only; omega) _).setCell (p := ⟨w.heap.size + 1, 3, none⟩) (by simp only; omega) _).setCell (p := ⟨w.heap.size + 1, 4, none⟩) (by simp only; omega) _)
  obtain ⟨z0, z1, z2, z3, z4, -⟩ := five_facts hx4
  rw [← hW4]
  clear hW4 b0 b1 b2 b3 b4 b5 b50 b51 b52 b53 b54 hx3 hx4 hb3 hb3' ho3 hb3s hlo HP0 HXD HXL HF x0 x1
  go_wp2
  refine bodyPost_ret (v := .agg #[.slice D M cd, .slice F M cf, .int .i64 (M : Int), .slice A es.length c, .int .i64 (k : Int)]) (by simp [results, Try.results66, go_sem, z0, z1, z2, z3, z4]) rfl ⟨F, cf, rfl, HO4.out, HB4.out⟩
theorem keepF1 {w W W' : World} {X B : Nat} {a b c d : Value} (h : W.cell? ⟨X, 1, none⟩ = some a ∧ W.cell? ⟨X, 2, none⟩ = some b ∧ W.cell? ⟨X, 3, none⟩ = some c ∧ W.cell? ⟨X, 4, none⟩ = some d ∧ Below B w W) (hb : Below W.heap.size W W') (hB : B ≤ w.heap.size) :
    W'.cell? ⟨X, 1, none⟩ = some a ∧ W'.cell? ⟨X, 2, none⟩ = some b ∧ W'.cell? ⟨X, 3, none⟩ = some c ∧ W'.cell? ⟨X, 4, none⟩ = some d ∧ Below B w W' := by
  obtain ⟨h1, h2, h3, h4, h5⟩ := h
  have hl : X < W.heap.size := World.block_lt_of_cell? W ⟨X, 1, none⟩ h1
  exact ⟨(hb.cell (p := ⟨X, 1, none⟩) hl).trans h1, (hb.cell (p := ⟨X, 2, none⟩) hl).trans h2, (hb.cell (p := ⟨X, 3, none⟩) hl).trans h3, (hb.cell (p := ⟨X, 4, none⟩) hl).trans h4, h5.trans (hb.mono (Nat.le_trans hB h5.size))⟩
theorem keepF0 {w W : World} {X B : Nat} {a b c d : Value} (h : W.cell? ⟨X, 1, none⟩ = some a ∧ W.cell? ⟨X, 2, none⟩ = some b ∧ W.cell? ⟨X, 3, none⟩ = some c ∧ W.cell? ⟨X, 4, none⟩ = some d ∧ Below B w W) (hX : B ≤ X) (u : Value) :
    (W.setCell ⟨X, 0, none⟩ u).cell? ⟨X, 1, none⟩ = some a ∧ (W.setCell ⟨X, 0, none⟩ u).cell? ⟨X, 2, none⟩ = some b ∧ (W.setCell ⟨X, 0, none⟩ u).cell? ⟨X, 3, none⟩ = some c ∧ (W.setCell ⟨X, 0, none⟩ u).cell? ⟨X, 4, none⟩ = some d ∧ Below B w (W.setCell ⟨X, 0, none⟩ u) := by
  obtain ⟨h1, h2, h3, h4, h5⟩ := h
  exact ⟨(cell_other u (by omega)).trans h1, (cell_other u (by omega)).trans h2, (cell_other u (by omega)).trans h3, (cell_other u (by omega)).trans h4, h5.setCell (p := ⟨X, 0, none⟩) hX u⟩
theorem dual_off {M k : Nat} {es : List (Int × Int)} {r : List Int} : dualL M k es (r.set k 0) = dualL M k es r := by
  unfold dualL
  refine List.map_congr_left fun u _ => ?_
  by_cases h : u = k
  · rw [if_pos h, if_pos h]
  · rw [if_neg h, if_neg h, List.getD, List.getElem?_set, if_neg (fun e => h e.symm)]
    rfl
set_option maxRecDepth 100000 in
set_option maxHeartbeats 2000000 in
theorem recu_any (A D F : Option Addr) (c cd cf M k : Nat) (es : List (Int × Int)) (p : List Int) (w : World) (hk : k < M) (hM : M ≤ 6) (hn : es.length ≤ 12) (hes : ∀ e ∈ es, 0 ≤ e.1 ∧ e.1 < e.2 ∧ e.2 < (M : Int)) (hc : Cut M es) (hl : p.length = M)
    (hp : ∀ u, -60 ≤ p.getD u 0 ∧ p.getD u 0 ≤ 60) (hz : p.getD k 0 = 0) (hE : EdgeS w w.heap.size A es) (hS : IntS w w.heap.size D p) (hT : IntS w w.heap.size F (fullTo es k M)) :
    Calls Try.prog 67 #[.agg #[.slice D M cd, .slice F M cf, .int .i64 (M : Int), .slice A es.length c, .int .i64 (k : Int)]] w (fun e w' => ∃ (G : Option Addr) (cg : Nat), e = .returned (.slice G M cg) ∧ OwnI w' w.heap.size G (recC M k es p) ∧ Below w.heap.size w w') := by
  have HE := Lib.hid hE
  have HT := Lib.hid hT
  have PA := fun (W : World) (hb : Below w.heap.size w W) => Lib.hid (miss_any D F cd cf M p (fullTo es k M) W hM hl (fullTo_len es k M) (hS.up_ hb) (hT.up_ hb))
  rw [add_neg hl hes hn (fun u => by have := hp u; omega) hz] at PA
  have hdl := dual_lim (q := k) hes hn (by omega) hp
  have hdm : ∀ u, -1000000 ≤ (dualL M k es p).getD u 0 ∧ (dualL M k es p).getD u 0 ≤ 1000000 := fun u => by have := hdl u; omega
  have PB := fun (X : Option Addr) (cx : Nat) (W : World) (h1 : Below w.heap.size w W) (h2 : IntS W W.heap.size X (dualL M k es p)) => Lib.hid (reduceW_any A X c cx M k es (dualL M k es p) W (by omega) hM hk (dual_len _ _ _ _) hn hes (fun u => by have := hdl u; omega) hc (HE.out.up_ h1) h2)
  rw [dual_len] at PB
  have HRC := Lib.hid (fun (f : Nat → Int) (hf : IsRed M es (dualL M k es p) k f) => show dualL M k es (chipsOf M (Dv (dualL M k es p) es f)) = recC M k es p by rw [recC, (redF_eq hf hk hn hdm hes).2])
  have HMS := Lib.hid (fun (f : Nat → Int) (hf : IsRed M es (dualL M k es p) k f) (X : Option Addr) (cx : Nat) (W : World) (h1 : Below w.heap.size w W) (h2 : IntS W W.heap.size X ((chipsOf M (Dv (dualL M k es p) es f)).set k 0)) => show Calls Try.prog 106 #[.slice X M cx, .slice F M cf] W (fun e w' => ∃ (G : Option Addr) (cg : Nat), e = .returned (.slice G M cg) ∧ OwnI w' W.heap.size G (recC M k es p) ∧ Below W.heap.size W w') by
    have h := miss_any X F cx cf M _ (fullTo es k M) W hM (by rw [List.length_set, chipsOf_len]) (fullTo_len es k M) h2 (HT.out.up_ h1)
    rw [add_neg (by rw [List.length_set, chipsOf_len]) hes hn (fun u => ?_) (by simp [List.getD, chipsOf_len, hk]), dual_off, HRC.out f hf] at h
    · exact h
    · by_cases hu : u < M
      · by_cases e : k = u
        · subst e
          simp [List.getD, chipsOf_len, hu]
        · have := red_few hes hk hn hdm hf hu fun h => e h.symm
          rw [List.getD, List.getElem?_set, if_neg e]
          exact this
      · rw [List.getD, List.getElem?_eq_none (by rw [List.length_set, chipsOf_len]; omega)]
        simp)
  have HCL := Lib.hid (fun (f : Nat → Int) => chipsOf_len M (Dv (dualL M k es p) es f))
  have hki : (k : Int) < (M : Int) := by omega
  have hk0 : (0 : Int) ≤ (k : Int) := Int.natCast_nonneg _
  clear hE hS hT hdl hdm hes hc hp hz hl HRC
  go_enter Try.func67, Try.ntmps67
  go_wp2_with fail
  obtain ⟨W0, hW0⟩ : ∃ X : World, X = w.alloc (Obj.cells #[.slice D M cd, .slice F M cf, .int .i64 (M : Int), .slice A es.length c, .int .i64 (k : Int)] 85) := ⟨_, rfl⟩
  rw [← hW0]
  have hb0 : Below w.heap.size w W0 := by rw [hW0]; exact (Below.refl _ _).alloc (Nat.le_refl _) _
  have HXD := Lib.hid (show Blk W0.drew w.heap.size 85 #[.slice D M cd, .slice F M cf, .int .i64 (M : Int), .slice A es.length c, .int .i64 (k : Int)] from (by rw [hW0]; exact Blk.new w _ _ : Blk W0 w.heap.size 85 #[.slice D M cd, .slice F M cf, .int .i64 (M : Int), .slice A es.length c, .int .i64 (k : Int)]))
  have hsz : W0.heap.size = w.heap.size + 1 := by rw [hW0]; simp
  have HXL := Lib.hid (show w.heap.size < W0.drew.heap.size by show w.heap.size < W0.heap.size; omega)
  obtain ⟨x0, x1, x2, x3, x4, -⟩ := five_facts HXD.out
  have HP0 := Lib.hid (show W0.drew.cell? ⟨w.heap.size, 1, none⟩ = some (.slice F M cf) ∧ W0.drew.cell? ⟨w.heap.size, 2, none⟩ = some (.int .i64 (M : Int)) ∧ W0.drew.cell? ⟨w.heap.size, 3, none⟩ = some (.slice A es.length c) ∧ W0.drew.cell? ⟨w.heap.size, 4, none⟩ = some (.int .i64 (k : Int)) ∧ Below w.heap.size w W0.drew from ⟨x1, x2, x3, x4, hb0.drew⟩)
  clear hW0 x1 x2 x3 x4
  refine wp_region_held_drew (S := (fun w' => w'.cell? ⟨w.heap.size, 1, none⟩ = some (.slice F M cf) ∧ w'.cell? ⟨w.heap.size, 2, none⟩ = some (.int .i64 (M : Int)) ∧ w'.cell? ⟨w.heap.size, 3, none⟩ = some (.slice A es.length c) ∧ w'.cell? ⟨w.heap.size, 4, none⟩ = some (.int .i64 (k : Int)) ∧ Below w.heap.size w w')) (by kernel_rfl) HP0.out (fun hH => ?_)
  refine wpAnyH_on 0 (some 3) (.pointer (some ⟨w.heap.size, 2, none⟩)) rfl (by kernel_rfl) (by kernel_rfl) (by kernel_rfl) (fun _ _ _ h => h) rfl hH (by rfl) ?_ ?_
  · intro w hSw
    try dsimp only at hSw
    go_simp
  try simp only [Act.put, List.setIfInBounds_toArray, List.set_cons_zero, List.set_cons_succ]
  refine wpAnyH_on 1 (some 4) (.agg #[.int .i64 (M : Int), .slice A es.length c]) rfl (by kernel_rfl) (by kernel_rfl) (by kernel_rfl) (fun _ _ _ h => h) rfl hH (by rfl) ?_ ?_
  · intro w hSw
    try dsimp only at hSw
    go_simp
  try simp only [Act.put, List.setIfInBounds_toArray, List.set_cons_zero, List.set_cons_succ]
  refine wpAnyH_on 2 (some 5) (.pointer (some ⟨w.heap.size, 0, none⟩)) rfl (by kernel_rfl) (by kernel_rfl) (by kernel_rfl) (fun _ _ _ h => h) rfl hH (by rfl) ?_ ?_
  · intro w hSw
    try dsimp only at hSw
    go_simp
  try simp only [Act.put, List.setIfInBounds_toArray, List.set_cons_zero, List.set_cons_succ]
  refine wpAnyH_on 4 (some 7) (.pointer (some ⟨w.heap.size, 1, none⟩)) rfl (by kernel_rfl) (by kernel_rfl) (by kernel_rfl) (fun _ _ _ h => h) rfl hH (by rfl) ?_ ?_
  · intro w hSw
    try dsimp only at hSw
    go_simp
  try simp only [Act.put, List.setIfInBounds_toArray, List.set_cons_zero, List.set_cons_succ]
  refine wpAnyH_on 5 (some 8) (.slice F M cf) rfl (by kernel_rfl) (by kernel_rfl) (by kernel_rfl) (fun _ _ _ h => h) rfl hH (by rfl) ?_ ?_
  · intro w hSw
    try dsimp only at hSw
    go_simp
  try simp only [Act.put, List.setIfInBounds_toArray, List.set_cons_zero, List.set_cons_succ]
  refine wpAnyH_on 7 (some 10) (.pointer (some ⟨w.heap.size, 4, none⟩)) rfl (by kernel_rfl) (by kernel_rfl) (by kernel_rfl) (fun _ _ _ h => h) rfl hH (by rfl) ?_ ?_
  · intro w hSw
    try dsimp only at hSw
    go_simp
  try simp only [Act.put, List.setIfInBounds_toArray, List.set_cons_zero, List.set_cons_succ]
  refine wpAnyH_on 8 (some 11) (.int .i64 (k : Int)) rfl (by kernel_rfl) (by kernel_rfl) (by kernel_rfl) (fun _ _ _ h => h) rfl hH (by rfl) ?_ ?_
  · intro w hSw
    try dsimp only at hSw
    go_simp
  try simp only [Act.put, List.setIfInBounds_toArray, List.set_cons_zero, List.set_cons_succ]
  refine wpAnyH_ready (rs := [3]) (by kernel_rfl) (by simp) ?_
  refine AllReadyH.cons rfl (fun K hK => ?_) AllReadyH.nil
  go_simp
  refine hK.out _ _ (hH) (fun h3 => ?_)
  clear hK K
  try simp only [Act.put, List.setIfInBounds_toArray, List.set_cons_zero, List.set_cons_succ]
  refine wpAnyH_ready (rs := [6]) (by kernel_rfl) (by simp) ?_
  refine AllReadyH.cons rfl (fun K hK => ?_) AllReadyH.nil
  go_simp
  refine (PA _ h3.2.2.2.2).out.mono ?_
  rintro e w3 ⟨Y, cy, rfl, ho3, hb3⟩
  refine hK.out _ _ (keepF1 h3 hb3 (Nat.le_refl _)) (fun h6 => ?_)
  clear hK K
  try simp only [Act.put, List.setIfInBounds_toArray, List.set_cons_zero, List.set_cons_succ]
  have hx3 := HXD.out.below hb3 HXL.out
  refine wpAnyH_ready (rs := [9]) (by kernel_rfl) (by simp) ?_
  refine AllReadyH.cons rfl (fun K hK => ?_) AllReadyH.nil
  go_simp
  refine (PB Y cy w3 h6.2.2.2.2 ho3.ints).out.mono ?_
  rintro e w4 ⟨pr, pb, g, cg, gs, f, rfl, hf, hr, hrn, hb4⟩
  refine hK.out _ _ (keepF1 h6 hb4 (Nat.le_refl _)) (fun h9 => ?_)
  clear hK K
  try simp only [Act.put, List.setIfInBounds_toArray, List.set_cons_zero, List.set_cons_succ]
  have hx4 := hx3.below hb4 hx3.lt
  obtain ⟨b0, -, -, -, -, b5⟩ := five_facts hx4
  have b50 := b5 0
  have r0 : w4.cell? ⟨pr, 0, none⟩ = some (.pointer (some ⟨pb, 0, none⟩)) := by
    rw [hr.red.cell]
    rfl
  have r1 : w4.cell? ⟨pb, 1, none⟩ = some (.slice (some ⟨g, 0, none⟩) M cg) := by
    rw [hr.brd.cell]
    rfl
  refine wpAnyH_on 10 (some 13) (.pointer (some ⟨pr, 0, none⟩)) rfl (by kernel_rfl) (by kernel_rfl) (by kernel_rfl) (fun _ _ _ h => h) rfl h9 (by rfl) ?_ ?_
  · intro w hSw
    try dsimp only at hSw
    go_simp
  try simp only [Act.put, List.setIfInBounds_toArray, List.set_cons_zero, List.set_cons_succ]
  refine wpAnyH_on 11 (some 14) (.pointer (some ⟨pr, 0, none⟩)) rfl (by kernel_rfl) (by kernel_rfl) (by kernel_rfl) (fun _ _ _ h => h) rfl h9 (by rfl) ?_ ?_
  · intro w hSw
    try dsimp only at hSw
    go_simp
  try simp only [Act.put, List.setIfInBounds_toArray, List.set_cons_zero, List.set_cons_succ]
  refine wpAnyH_ready (rs := [12]) (by kernel_rfl) (by simp) ?_
  refine AllReadyH.cons rfl (fun K hK => ?_) AllReadyH.nil
  go_simp
  refine hK.out _ _ (h9) (fun h12 => ?_)
  clear hK K
  try simp only [Act.put, List.setIfInBounds_toArray, List.set_cons_zero, List.set_cons_succ]
  refine wpAnyH_on 13 (some 16) (.pointer (some ⟨pb, 0, none⟩)) rfl (by kernel_rfl) (by kernel_rfl) (by kernel_rfl) (fun _ _ _ h => h) rfl h12 (by rfl) ?_ ?_
  · intro w hSw
    try dsimp only at hSw
    go_simp
  try simp only [Act.put, List.setIfInBounds_toArray, List.set_cons_zero, List.set_cons_succ]
  refine wpAnyH_on 14 (some 17) (.pointer (some ⟨pb, 1, none⟩)) rfl (by kernel_rfl) (by kernel_rfl) (by kernel_rfl) (fun _ _ _ h => h) rfl h12 (by rfl) ?_ ?_
  · intro w hSw
    try dsimp only at hSw
    go_simp
  try simp only [Act.put, List.setIfInBounds_toArray, List.set_cons_zero, List.set_cons_succ]
  refine wpAnyH_ready (rs := [15]) (by kernel_rfl) (by simp) ?_
  refine AllReadyH.cons rfl (fun K hK => ?_) AllReadyH.nil
  go_simp
  refine hK.out _ _ (h12) (fun h15 => ?_)
  clear hK K
  try simp only [Act.put, List.setIfInBounds_toArray, List.set_cons_zero, List.set_cons_succ]
  refine wpAnyH_on 16 (some 19) (.pointer (some ⟨w.heap.size, 0, none⟩)) rfl (by kernel_rfl) (by kernel_rfl) (by kernel_rfl) (fun _ _ _ h => h) rfl h15 (by rfl) ?_ ?_
  · intro w hSw
    try dsimp only at hSw
    go_simp
  try simp only [Act.put, List.setIfInBounds_toArray, List.set_cons_zero, List.set_cons_succ]
  refine wpAnyH_ready (rs := [17]) (by kernel_rfl) (by simp) ?_
  refine AllReadyH.cons rfl (fun K hK => ?_) AllReadyH.nil
  go_simp
  refine hK.out _ _ (keepF0 h15 (Nat.le_refl _) _) (fun h17 => ?_)
  clear hK K
  try simp only [Act.put, List.setIfInBounds_toArray, List.set_cons_zero, List.set_cons_succ]
  refine wpAnyH_done (by kernel_rfl) ?_ _
  have hs4 := hb4.size
  have hs3 : W0.heap.size ≤ w3.heap.size := hb3.size
  have hgX : w.heap.size < g := by have := hrn.n1; omega
  obtain ⟨W5, hW5⟩ : ∃ Z : World, Z = w4.setCell ⟨w.heap.size, 0, none⟩ (.slice (some ⟨g, 0, none⟩) M cg) := ⟨_, rfl⟩
  have y0 : W5.cell? ⟨w.heap.size, 0, none⟩ = some (.slice (some ⟨g, 0, none⟩) M cg) := by rw [hW5]; exact World.cell?_setCell_same _ _ _ b0
  have hch : Chips W5 g (chipsOf M (Dv (dualL M k es p) es f)) := by
    rw [hW5]
    refine ⟨by simpa [World.setCell] using hr.chips.lt, fun i z hz => ?_⟩
    have hbl := Below.heap_setCell w4 ⟨w.heap.size, 0, none⟩ (.slice (some ⟨g, 0, none⟩) M cg) g (by show g ≠ w.heap.size; omega)
    exact ⟨(World.cell?_of_block (a := ⟨g, i, none⟩) hbl).trans (hr.chips.cell i z hz).1, (World.frozen?_of_block (a := ⟨g, i, none⟩) hbl).trans (hr.chips.cell i z hz).2⟩
  rw [← hW5] at h17 ⊢
  obtain ⟨y1, -, -, y4, hB5⟩ := h17
  obtain ⟨x, hx⟩ : ∃ x, (chipsOf M (Dv (dualL M k es p) es f))[k]? = some x := ⟨_, List.getElem?_eq_getElem (by rw [chipsOf_len]; exact hk)⟩
  obtain ⟨f0, f1⟩ := hch.cell k x hx
  have HI6 := Lib.hid (hch.set_ (a := k) (by rw [chipsOf_len]; exact hk) 0).ints
  have HB6 := Lib.hid (hB5.setCell (p := ⟨g, k, none⟩) (by simp only; omega) (.int .i64 0))
  have hbl := Below.heap_setCell W5 ⟨g, k, none⟩ (.int .i64 0) w.heap.size (by show w.heap.size ≠ g; omega)
  have q0 : (W5.setCell ⟨g, k, none⟩ (.int .i64 0)).cell? ⟨w.heap.size, 0, none⟩ = some (.slice (some ⟨g, 0, none⟩) M cg) := (World.cell?_of_block (a := ⟨w.heap.size, 0, none⟩) hbl).trans y0
  have q1 : (W5.setCell ⟨g, k, none⟩ (.int .i64 0)).cell? ⟨w.heap.size, 1, none⟩ = some (.slice F M cf) := (World.cell?_of_block (a := ⟨w.heap.size, 1, none⟩) hbl).trans y1
  have HMF := Lib.hid (HMS.out f hf (some ⟨g, 0, none⟩) cg _ HB6.out HI6.out)
  clear hW5 hbl hB5 hx hch hs4 hs3 hrn hr hf HMS HI6 h15 h12 h9 h6 h3 hH b0 b5 b50 r0 r1 hb3 hb4 ho3 hx3 hx4 PA PB HP0 HXD HXL HCL hb0 hsz x0
  go_wp2_with fail
  refine HMF.out.mono ?_
  rintro e w7 ⟨G, cg2, rfl, ho7, hb7⟩
  have HO7 := Lib.hid (ho7.mono HB6.out.size)
  have HB7 := Lib.hid (HB6.out.trans (hb7.mono HB6.out.size))
  clear ho7 hb7 HMF
  go_wp2
  go_ret
  exact ⟨G, cg2, rfl, HO7.out, HB7.out⟩
set_option maxRecDepth 100000 in
set_option maxHeartbeats 1000000 in
theorem implRco (N : Int) (A D : Option Addr) (c cd : Nat) (es : List (Int × Int)) (p : List Int) (q : Int) (w : World) (hn : es.length ≤ 1048576) (hd : p.length ≤ 1048576) (hE : EdgeS w w.heap.size A es) (hS : IntS w w.heap.size D p) :
    Calls Try.prog 24 #[.agg #[.int .i64 N, .slice A es.length c], .slice D p.length cd, .int .i64 q] w (GivesIntsOk w (rcoX N es p q) (pileB N es p q)) := by
  have HE := Lib.hid hE
  have HS := Lib.hid hS
  have G0 := GB.start w N A c es
  have HP := fun w h1 h2 => Lib.hid (implPile N A D c cd es p q w hn hd h1 h2)
  clear hE hS
  cases h1 : pileB N es p q with
  | false =>
    rw [h1] at HP
    rw [rcoX_f h1]
    clear h1
    go_enter Try.func24, Try.ntmps24
    go_wp2_with fail
    refine (HP _ (HE.out.up_ G0.old) (HS.out.up_ G0.old)).out.mono ?_
    rintro e w1 ⟨rfl, hb1⟩
    have G1 := Lib.hid (G0.next hb1)
    clear G0 hb1
    go_wp2
    go_ret2
    exact ⟨none, 0, rfl, OwnI.nil _ _ _, G1.out.old⟩
  | true =>
    rw [h1] at HP
    obtain ⟨M, k, rfl, rfl, hP, hg⟩ := pile_parts h1
    rw [rcoX_t h1]
    have HL := Lib.hid hP.len
    have HRL := Lib.hid (recC_len (M := M) (q := k) (es := es) (p := p))
    have HC := fun (W : World) h1 => Lib.hid (cfg_any A D c cd M k es W hg hP.qm hP.n12 h1)
    have HR := fun (F : Option Addr) (cf : Nat) (W : World) h1 h2 h3 => Lib.hid (recu_any A D F c cd cf M k es p W hP.qm hP.m6 hP.n12 hP.ed hP.cut hP.len (fun u => by have := hP.lim u; omega) hP.zero h1 h2 h3)
    clear h1 hP hg
    go_enter Try.func24, Try.ntmps24
    go_wp2_with fail
    refine (HP _ (HE.out.up_ G0.old) (HS.out.up_ G0.old)).out.mono ?_
    rintro e w1 ⟨rfl, hb1⟩
    have G1 := Lib.hid (G0.next hb1)
    have c0 := G1.out.c0
    have c1 := G1.out.c1
    clear G0 hb1
    go_wp2_with fail
    rw [HL.out]
    refine (HC _ (HE.out.up_ G1.out.old)).out.mono ?_
    rintro e w2 ⟨F, cf, rfl, ho2, hb2⟩
    have G2 := Lib.hid (G1.out.next hb2)
    have HO2 := Lib.hid ho2.ints
    clear hb2 c0 c1 ho2 HC G1
    go_wp2_with fail
    refine (HR F cf _ (HE.out.up_ G2.out.old) (HS.out.up_ G2.out.old) HO2.out).out.mono ?_
    rintro e w3 ⟨A3, c3, rfl, ho3, hb3⟩
    have G3 := Lib.hid (G2.out.next hb3)
    have HO3 := Lib.hid (ho3.mono G2.out.old.size)
    clear hb3 ho3 HR
    go_wp2
    go_ret2
    exact ⟨A3, c3, by rw [HRL.out]; rfl, HO3.out, G3.out.old⟩
end Go.Proofs.Ytndncmjhpbjcoaa
