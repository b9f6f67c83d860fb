/- RecurrentOf: the program's side. -/
import Derived.Test.YtdpojcgeblbfeaaWRcoS
import Derived.Test.YtdpojcgeblbfeaaWPilH
import Derived.Test.YtdpojcgeblbfeaaWBI
import Derived.Test.YtdpojcgeblbfeaaWBA
import Derived.Test.YtdpojcgeblbfeaaWBF
import Derived.Test.YtdpojcgeblbfeaaWSh
import Derived.Test.YtdpojcgeblbfeaaWPilZ
import Derived.Test.YtdpojcgeblbfeaaWBJ
import Derived.Test.YtdpojcgeblbfeaaWAnyH
set_option linter.all false
namespace Go.Proofs.Ytdpojcgeblbfeaa
open Go.RowKit

set_option maxHeartbeats 1000000 in
theorem miss_any (A C : Option Addr) (ca cc M : Nat) (xs ys : List Int) (w : World) (hM : M ≤ 6) (hx : xs.length = M) (hy : ys.length = M) (h1 : IntS w w.heap.size A xs) (h2 : IntS w w.heap.size C ys) :
    Calls Try.prog 109 #[.slice A M ca, .slice C M cc] w (fun e w' => ∃ (F : Option Addr) (cf : Nat), e = .returned (.slice F M cf) ∧ OwnI w' w.heap.size F (addB ys (negB xs)) ∧ Below w.heap.size w w') := by
  have HN := Lib.hid (implNeg A ca xs w (by omega) h1)
  rw [hx] at HN
  have HNL := Lib.hid (show (negB xs).length = M by rw [negB_length, hx])
  have HAL := Lib.hid (show (addB ys (negB xs)).length = M by rw [addB, if_pos (by rw [hy, negB_length, hx]), sumsB_length, hy])
  have HA := fun (X : Option Addr) (cx : Nat) (W : World) (k1 : IntS W W.heap.size C ys) (k2 : IntS W W.heap.size X (negB xs)) => Lib.hid (implAddD C X cc cx ys (negB xs) W (by omega) (by rw [negB_length]; omega) k1 k2)
  rw [hy, negB_length, hx] at HA
  have H2 := Lib.hid h2
  obtain ⟨s, hs⟩ : ∃ s, s = addB ys (negB xs) := ⟨_, rfl⟩
  obtain ⟨b, hb⟩ : ∃ s, s = sameLen ys (negB xs) := ⟨_, rfl⟩
  rw [← hs, ← hb] at HA
  rw [← hs] at HAL ⊢
  clear h1 h2 hx hy hs hb
  go_enter Try.func109, Try.ntmps109
  go_wp2_with fail
  refine HN.out.mono ?_
  rintro e w1 ⟨A1, c1, rfl, ho1, hb1⟩
  rw [HNL.out]
  have HO1 := Lib.hid ho1.ints
  have HB1 := Lib.hid hb1
  clear ho1 hb1 HN
  go_wp2_with fail
  refine (HA A1 c1 _ (H2.out.up_ HB1.out) HO1.out).out.mono ?_
  rintro e w2 ⟨A2, c2, rfl, ho2, hb2⟩
  rw [HAL.out]
  have HO2 := Lib.hid (ho2.mono HB1.out.size)
  have HB2 := Lib.hid (HB1.out.trans (hb2.mono HB1.out.size))
  clear ho2 hb2 HA
  go_wp2
  go_ret
  exact ⟨A2, c2, rfl, HO2.out, HB2.out⟩
theorem ownI_far1 {w : World} {B X o : Nat} {A : Option Addr} {zs : List Int} (h : OwnI w B A zs) (hx : X < B) (u : Value) : OwnI (w.setCell ⟨X, o, none⟩ u) B A zs := fun hp => by
  obtain ⟨g, off, rfl, h1, h2, h3⟩ := h hp
  refine ⟨g, off, rfl, h1, by simpa [World.setCell] using h2, fun i z hz => ?_⟩
  have hbl := Below.heap_setCell w ⟨X, o, none⟩ u g (by show g ≠ X; omega)
  exact ⟨(World.cell?_of_block (a := ⟨g, off + i, none⟩) hbl).trans (h3 i z hz).1, (World.frozen?_of_block (a := ⟨g, off + i, none⟩) hbl).trans (h3 i z hz).2⟩
theorem keepG2 {w W : World} {p r : Addr} {a b : Value} {B X : Nat} (h : W.cell? p = some a ∧ W.cell? r = some b ∧ Below B w W) (hp : p.block ≠ X ∧ r.block ≠ X) (hX : B ≤ X) (o : Nat) (u : Value) :
    (W.setCell ⟨X, o, none⟩ u).cell? p = some a ∧ (W.setCell ⟨X, o, none⟩ u).cell? r = some b ∧ Below B w (W.setCell ⟨X, o, none⟩ u) := by
  obtain ⟨h1, h2, h3⟩ := h
  have hbl : ∀ k, k ≠ X → (W.setCell ⟨X, o, none⟩ u).heap[k]? = W.heap[k]? := fun k hk => Below.heap_setCell _ _ _ _ (by simpa using hk)
  exact ⟨(World.cell?_of_block (hbl _ hp.1)).trans h1, (World.cell?_of_block (hbl _ hp.2)).trans h2, h3.setCell (p := ⟨X, o, none⟩) hX u⟩
theorem keepG1 {w W W' : World} {p r : Addr} {a b : Value} {B : Nat} (h : W.cell? p = some a ∧ W.cell? r = some b ∧ Below B w W) (hb : Below W.heap.size W W') (hB : B ≤ w.heap.size) : W'.cell? p = some a ∧ W'.cell? r = some b ∧ Below B w W' := by
  obtain ⟨h1, h2, h3⟩ := h
  exact ⟨(hb.cell (World.block_lt_of_cell? W p h1)).trans h1, (hb.cell (World.block_lt_of_cell? W r h2)).trans h2, h3.trans (hb.mono (Nat.le_trans hB h3.size))⟩
theorem five_facts {w : World} {g : Nat} {t : TypeId} {a b c d e : Value} (hb : Blk w g t #[a, b, c, d, e]) : w.cell? ⟨g, 0, none⟩ = some a ∧ w.cell? ⟨g, 1, none⟩ = some b ∧ w.cell? ⟨g, 2, none⟩ = some c ∧ w.cell? ⟨g, 3, none⟩ = some d ∧ w.cell? ⟨g, 4, none⟩ = some e ∧ ∀ o, w.frozen? ⟨g, o, none⟩ = false :=
  ⟨by rw [hb.cell]; rfl, by rw [hb.cell]; rfl, by rw [hb.cell]; rfl, by rw [hb.cell]; rfl, by rw [hb.cell]; rfl, fun o => hb.frozen o⟩
set_option maxRecDepth 100000 in
set_option maxHeartbeats 2000000 in
theorem cfg_any (A D : Option Addr) (c cd M k : Nat) (es : List (Int × Int)) (w : World) (hg : graphB (M : Int) es = true) (hk : k < M) (hn : es.length ≤ 12) (hE : EdgeS w w.heap.size A es) :
    Calls Try.prog 56 #[.agg #[.int .i64 (M : Int), .slice A es.length c], .slice D M cd, .int .i64 (k : Int)] w (fun e w' => ∃ (F : Option Addr) (cf : Nat), e = .returned (.agg #[.slice D M cd, .slice F M cf, .int .i64 (M : Int), .slice A es.length c, .int .i64 (k : Int)]) ∧ OwnI w' w.heap.size F (fullTo es k M) ∧ Below w.heap.size w w') := by
  have HE := Lib.hid hE
  have hfo : fullOk (M : Int) es (k : Int) = true := by rw [fullOk, hg, vB_t (by omega)]; rfl
  have HF := fun (W : World) (hb : Below w.heap.size w W) => Lib.hid (implFull (M : Int) A c es (k : Int) W (by omega) (HE.out.up_ hb))
  rw [fullC_t hfo] at HF
  have HFL := Lib.hid (fullTo_len es k M)
  clear hE hfo hg
  go_enter Try.func56, Try.ntmps56
  go_wp2_with fail
  obtain ⟨W0, hW0⟩ : ∃ X : World, X = (w.alloc (Obj.cells #[.int .i64 (M : Int), .slice A es.length c] 25)).alloc (Obj.cells #[.slice none 0 0, .slice none 0 0, .int .i64 0, .slice none 0 0, .int .i64 0] 64) := ⟨_, rfl⟩
  rw [← hW0]
  have hb0 : Below w.heap.size w W0 := by rw [hW0]; exact ((Below.refl _ _).alloc (Nat.le_refl _) _).alloc (by simp) _
  have hG : Blk W0 w.heap.size 25 #[.int .i64 (M : Int), .slice A es.length c] := by rw [hW0]; exact (Blk.new w _ _).alloc _
  have HX := Lib.hid (show Blk W0 (w.heap.size + 1) 64 #[.slice none 0 0, .slice none 0 0, .int .i64 0, .slice none 0 0, .int .i64 0] by
    have h := Blk.new (w.alloc (Obj.cells #[.int .i64 (M : Int), .slice A es.length c] 25)) 64 #[.slice none 0 0, .slice none 0 0, .int .i64 0, .slice none 0 0, .int .i64 0]
    rw [World.size_alloc, ← hW0] at h
    exact h)
  have x0 := (box_facts hG).1
  have x1 := (box_facts hG).2.1
  have hsz : W0.heap.size = w.heap.size + 2 := by rw [hW0]; simp
  have HP0 := Lib.hid (show W0.drew.cell? ⟨w.heap.size, 0, none⟩ = some (.int .i64 (M : Int)) ∧ W0.drew.cell? ⟨w.heap.size, 1, none⟩ = some (.slice A es.length c) ∧ Below w.heap.size w W0.drew from ⟨x0, x1, hb0.drew⟩)
  have HXD := Lib.hid (show Blk W0.drew (w.heap.size + 1) 64 #[.slice none 0 0, .slice none 0 0, .int .i64 0, .slice none 0 0, .int .i64 0] from HX.out)
  have HXL := Lib.hid HX.out.lt
  clear hW0 hG HX
  go_region_held3 (fun w' => w'.cell? ⟨w.heap.size, 0, none⟩ = some (.int .i64 (M : Int)) ∧ w'.cell? ⟨w.heap.size, 1, none⟩ = some (.slice A es.length c) ∧ Below w.heap.size w w')
    (first
      | with_reducible exact HP0.out
      | with_reducible exact keepG1 (by assumption) hb3 (Nat.le_refl _)
      | with_reducible exact keepG2 (keepG2 (keepG2 (keepG2 (keepG2 (by assumption) (by constructor <;> (simp only; omega)) (by omega) _ _) (by constructor <;> (simp only; omega)) (by omega) _ _) (by constructor <;> (simp only; omega)) (by omega) _ _) (by constructor <;> (simp only; omega)) (by omega) _ _) (by constructor <;> (simp only; omega)) (by omega) _ _)
    ((go_at_call 107; refine (HF _ (And.right (And.right (by assumption)))).out.mono ?_; rintro e w3 ⟨F, cf, rfl, ho3, hb3⟩; obtain ⟨b0, b1, b2, b3, b4, b5⟩ := five_facts (HXD.out.below hb3 HXL.out); have b50 := b5 0; have b51 := b5 1; have b52 := b5 2; have b53 := b5 3; have b54 := b5 4))
  have hx3 := HXD.out.below hb3 HXL.out
  have hb3' : Below w.heap.size w w3 := hb0.drew.trans (hb3.mono (show w.heap.size ≤ W0.drew.heap.size from hb0.size))
  have hb3s := hb3.size
  rw [HFL.out]
  obtain ⟨W4, hW4⟩ : ∃ X : World, X = ((((w3.setCell ⟨w.heap.size + 1, 0, none⟩ (.slice D M cd)).setCell ⟨w.heap.size + 1, 1, none⟩ (.slice F M cf)).setCell ⟨w.heap.size + 1, 2, none⟩ (.int .i64 (M : Int))).setCell ⟨w.heap.size + 1, 3, none⟩ (.slice A es.length c)).setCell ⟨w.heap.size + 1, 4, none⟩ (.int .i64 (k : Int)) := ⟨_, rfl⟩
  have hx4 : Blk W4 (w.heap.size + 1) 64 #[.slice D M cd, .slice F M cf, .int .i64 (M : Int), .slice A es.length c, .int .i64 (k : Int)] := by rw [hW4]; exact ((((hx3.set_ 0 _).set_ 1 _).set_ 2 _).set_ 3 _).set_ 4 _
  have hlo : w.heap.size + 1 < W0.drew.heap.size := by show w.heap.size + 1 < W0.heap.size; omega
  have HO4 := Lib.hid (show OwnI W4 w.heap.size F (fullTo es k M) by
    rw [hW4]
    exact (ownI_far1 (ownI_far1 (ownI_far1 (ownI_far1 (ownI_far1 ho3 hlo _) hlo _) hlo _) hlo _) hlo _).mono (show w.heap.size ≤ W0.drew.heap.size from hb0.size))
  have HB4 := Lib.hid (show Below w.heap.size w W4 by
    rw [hW4]
    exact ((((hb3'.setCell (p := ⟨w.heap.size + 1, 0, none⟩) (by simp only; omega) _).setCell (p := ⟨w.heap.size + 1, 1, none⟩) (by simp only; omega) _).setCell (p := ⟨w.heap.size + 1, 2, none⟩) (by simp only; omega) _).setCell (p := ⟨w.heap.size + 1, 3, none⟩) (by simp only; omega) _).setCell (p := ⟨w.heap.size + 1, 4, none⟩) (by simp only; omega) _)
  obtain ⟨z0, z1, z2, z3, z4, -⟩ := five_facts hx4
  rw [← hW4]
  clear hW4 b0 b1 b2 b3 b4 b5 b50 b51 b52 b53 b54 hx3 hx4 hb3 hb3' ho3 hb3s hlo HP0 HXD HXL HF x0 x1
  go_wp2
  refine bodyPost_ret (v := .agg #[.slice D M cd, .slice F M cf, .int .i64 (M : Int), .slice A es.length c, .int .i64 (k : Int)]) (by simp [results, Try.results56, go_sem, z0, z1, z2, z3, z4]) rfl ⟨F, cf, rfl, HO4.out, HB4.out⟩
end Go.Proofs.Ytdpojcgeblbfeaa
