/- DropEdge: the plain function; both sides. -/
import Derived.Test.YtbmihbbpdmpmpaaDelE
import Derived.Test.YtbmihbbpdmpmpaaBC
import Derived.Test.YtbmihbbpdmpmpaaBB
namespace Go.Proofs.Ytbmihbbpdmpmpaa
open Go.RowKit

noncomputable def dropK (N : Int) (es : List (Int × Int)) (k : Int) : Bool := graphB N es && decide (0 ≤ k) && decide (k < (es.length : Int)) && graphB N (es.eraseIdx k.toNat)
noncomputable def dropN (N : Int) (es : List (Int × Int)) (k : Int) : Int := if dropK N es k = true then N else 0
noncomputable def dropL (N : Int) (es : List (Int × Int)) (k : Int) : List (Int × Int) := if dropK N es k = true then es.eraseIdx k.toNat else []
/-- a graph of the call's own and a bool are handed back -/
def GivesG (w : World) (N : Int) (es : List (Int × Int)) (b : Bool) (e : Ending) (w' : World) : Prop :=
  ∃ (A : Option Addr) (c : Nat), e = .returned (.tuple #[.agg #[.int .i64 N, .slice A es.length c], .bool b]) ∧ OwnE w' w.heap.size A es ∧ (∀ g off, A = some ⟨g, off, none⟩ → w.heap.size ≤ g ∧ g < w'.heap.size) ∧ Below w.heap.size w w'
theorem drop_no {N : Int} {es : List (Int × Int)} {k : Int} (h : dropK N es k = false) : dropN N es k = 0 ∧ dropL N es k = [] := by
  unfold dropN dropL
  rw [h]
  exact ⟨rfl, rfl⟩
theorem drop_yes {N : Int} {es : List (Int × Int)} {k : Int} (h : dropK N es k = true) : dropN N es k = N ∧ dropL N es k = es.eraseIdx k.toNat := by
  unfold dropN dropL
  rw [if_pos h, if_pos h]
  exact ⟨rfl, rfl⟩
theorem own_rng {w W : World} {g : Nat} (h1 : w.heap.size ≤ g) (h2 : g < W.heap.size) : ∀ g' off, some (⟨g, 0, none⟩ : Addr) = some ⟨g', off, none⟩ → w.heap.size ≤ g' ∧ g' < W.heap.size := fun g' off e => by
  injection e with e
  injection e with e1 _ _
  subst e1
  exact ⟨h1, h2⟩
theorem own_nil (w : World) (b : Nat) (A : Option Addr) : OwnE w b A [] := fun h => absurd h (by simp)
theorem keepG {w W W' : World} {g : Nat} {a b : Value} (h : W.cell? ⟨g, 0, none⟩ = some a ∧ W.cell? ⟨g, 1, none⟩ = some b ∧ Below w.heap.size w W) {B : Nat} (hb : Below B W W') (hg : g < w.heap.size) (hB : w.heap.size ≤ B) : W'.cell? ⟨g, 0, none⟩ = some a ∧ W'.cell? ⟨g, 1, none⟩ = some b ∧ Below w.heap.size w W' :=
  ⟨(hb.cell (p := ⟨g, 0, none⟩) (by show g < B; omega)).trans h.1, (hb.cell (p := ⟨g, 1, none⟩) (by show g < B; omega)).trans h.2.1, h.2.2.trans (hb.mono hB)⟩
theorem keepS {w W W' : World} {g : Nat} {a b : Value} (h : W.cell? ⟨g, 0, none⟩ = some a ∧ W.cell? ⟨g, 1, none⟩ = some b ∧ Below w.heap.size w W) (hb : Below W.heap.size W W') (hg : g < w.heap.size) : W'.cell? ⟨g, 0, none⟩ = some a ∧ W'.cell? ⟨g, 1, none⟩ = some b ∧ Below w.heap.size w W' :=
  keepG h hb hg h.2.2.size
theorem keepR {w W : World} {o0 o1 : Obj} {g : Nat} {a b : Value} (h : (W.alloc o0).cell? ⟨g, 0, none⟩ = some a ∧ (W.alloc o0).cell? ⟨g, 1, none⟩ = some b ∧ Below w.heap.size w (W.alloc o0)) (hW : w.heap.size ≤ W.heap.size) (hg : g < w.heap.size) :
    (W.alloc o1).cell? ⟨g, 0, none⟩ = some a ∧ (W.alloc o1).cell? ⟨g, 1, none⟩ = some b ∧ Below w.heap.size w (W.alloc o1) := by
  have hbl : ∀ k, k < w.heap.size → (W.alloc o1).heap[k]? = (W.alloc o0).heap[k]? := fun k hk => by
    rw [Below.heap_alloc _ _ _ (by omega), Below.heap_alloc _ _ _ (by omega)]
  refine ⟨(World.cell?_of_block (w := W.alloc o0) (hbl g hg)).trans h.1, (World.cell?_of_block (w := W.alloc o0) (hbl g hg)).trans h.2.1, ?_⟩
  have hB := h.2.2
  exact ⟨hB.os, hB.tape, hB.output, by rw [World.size_alloc]; omega, fun k hk => (hbl k hk).trans (hB.block k hk)⟩
theorem keepW {w W : World} {g X : Nat} {a b u v : Value} (h : W.cell? ⟨g, 0, none⟩ = some a ∧ W.cell? ⟨g, 1, none⟩ = some b ∧ Below w.heap.size w W) (hg : g < w.heap.size) (hX : w.heap.size ≤ X) :
    ((W.setCell ⟨X, 0, none⟩ u).setCell ⟨X, 1, none⟩ v).cell? ⟨g, 0, none⟩ = some a ∧ ((W.setCell ⟨X, 0, none⟩ u).setCell ⟨X, 1, none⟩ v).cell? ⟨g, 1, none⟩ = some b ∧ Below w.heap.size w ((W.setCell ⟨X, 0, none⟩ u).setCell ⟨X, 1, none⟩ v) :=
  keepG h (Below.setCell (B := X) (Below.setCell (B := X) (Below.refl X W) (p := ⟨X, 0, none⟩) (Nat.le_refl X) u) (p := ⟨X, 1, none⟩) (Nat.le_refl X) v) hg hX
theorem box_facts {w : World} {g : Nat} {a b : Value} (hb : Blk w g 30 #[a, b]) : w.cell? ⟨g, 0, none⟩ = some a ∧ w.cell? ⟨g, 1, none⟩ = some b ∧ w.frozen? ⟨g, 0, none⟩ = false ∧ w.frozen? ⟨g, 1, none⟩ = false ∧ g < w.heap.size :=
  ⟨by rw [hb.cell]; rfl, by rw [hb.cell]; rfl, hb.frozen 0, hb.frozen 1, hb.lt⟩
theorem boxA {W w2 w3 : World} {cs : Array Value} {t : TypeId} {g : Nat} (hb : Below (W.alloc (.cells cs t)).heap.size (W.alloc (.cells cs t)) w2) (hfr : ∀ k, k ≠ g → w3.heap[k]? = w2.heap[k]?) (hg : (W.alloc (.cells cs t)).heap.size ≤ g) : Blk w3 W.heap.size t cs := by
  rw [World.size_alloc] at hg hb
  have h1 := (Blk.new W t cs).below hb (Nat.lt_succ_self _)
  exact (hfr _ (by omega)).trans h1
theorem ownE_two {w : World} {b g X : Nat} {es : List (Int × Int)} (h : OwnE w b (some ⟨g, 0, none⟩) es) (hx : g ≠ X) (u v : Value) : OwnE ((w.setCell ⟨X, 0, none⟩ u).setCell ⟨X, 1, none⟩ v) b (some ⟨g, 0, none⟩) es := fun hn => by
  obtain ⟨g', off, e, h1, hg, hc⟩ := h hn
  injection e with e
  injection e with e1 e2 _
  subst e1
  subst e2
  have hbl : ((w.setCell ⟨X, 0, none⟩ u).setCell ⟨X, 1, none⟩ v).heap[g]? = w.heap[g]? := (Below.heap_setCell _ _ _ _ hx).trans (Below.heap_setCell _ _ _ _ hx)
  have hcl : ∀ o : Nat, ((w.setCell ⟨X, 0, none⟩ u).setCell ⟨X, 1, none⟩ v).cell? ⟨g, o, none⟩ = w.cell? ⟨g, o, none⟩ := fun o => World.cell?_of_block (a := ⟨g, o, none⟩) hbl
  have hfr : ∀ o : Nat, ((w.setCell ⟨X, 0, none⟩ u).setCell ⟨X, 1, none⟩ v).frozen? ⟨g, o, none⟩ = w.frozen? ⟨g, o, none⟩ := fun o => World.frozen?_of_block (a := ⟨g, o, none⟩) hbl
  refine ⟨g, 0, rfl, h1, by simpa [World.setCell] using hg, fun i z hz => ?_⟩
  rw [hcl, hcl, hfr, hfr]
  exact hc i z hz
theorem below_two {w : World} {B X : Nat} (hx : B ≤ X) (u v : Value) : Below B w ((w.setCell ⟨X, 0, none⟩ u).setCell ⟨X, 1, none⟩ v) :=
  Below.setCell (B := B) (Below.setCell (B := B) (Below.refl B w) (p := ⟨X, 0, none⟩) hx u) (p := ⟨X, 1, none⟩) hx v
theorem boxD {W w2 w3 : World} {cs : Array Value} {t : TypeId} {g : Nat} (hb : Below ((W.alloc (.cells cs t)).drew).heap.size ((W.alloc (.cells cs t)).drew) w2) (hfr : ∀ k, k ≠ g → w3.heap[k]? = w2.heap[k]?) (hg : ((W.alloc (.cells cs t)).drew).heap.size ≤ g) : Blk w3 W.heap.size t cs := by
  have hs : ((W.alloc (.cells cs t)).drew).heap.size = W.heap.size + 1 := by simp
  rw [hs] at hg hb
  have h0 : Blk ((W.alloc (.cells cs t)).drew) W.heap.size t cs := Blk.new W t cs
  have h1 := h0.below hb (Nat.lt_succ_self _)
  exact (hfr _ (by omega)).trans h1
theorem boxB {w2 w3 : World} {cs : Array Value} {t : TypeId} {g : Nat} (hfr : ∀ k, k ≠ g → w3.heap[k]? = (w2.alloc (.cells cs t)).heap[k]?) (hg : g < w2.heap.size) : Blk w3 w2.heap.size t cs :=
  (hfr _ (by omega)).trans (Blk.new w2 t cs)
set_option maxRecDepth 100000 in
set_option maxHeartbeats 2000000 in
theorem implDrop (N : Int) (A : Option Addr) (c : Nat) (es : List (Int × Int)) (k : Int) (w : World) (hn : es.length ≤ 1048576) (h0 : -9223372036854775808 ≤ k) (h1 : k ≤ 9223372036854775807) (hE : EdgeS w w.heap.size A es) :
    Calls Try.prog 26 #[.agg #[.int .i64 N, .slice A es.length c], .int .i64 k] w (GivesG w (dropN N es k) (dropL N es k) (dropK N es k)) := by
  have HE := Lib.hid hE
  obtain ⟨wa, hwa⟩ : ∃ wa, wa = ((w.alloc (Obj.cells #[.int .i64 N, .slice A es.length c] 30)).alloc (Obj.cells #[.int .i64 0, .slice none 0 0] 30)) := ⟨_, rfl⟩
  have hba : Below w.heap.size w wa := by rw [hwa]; exact ((Below.refl _ w).alloc (Nat.le_refl _) _).alloc (by simp) _
  have hk1 : Blk wa w.heap.size 30 #[.int .i64 N, .slice A es.length c] := by rw [hwa]; exact (Blk.new w _ _).alloc _
  have hk2 : Blk wa (w.heap.size + 1) 30 #[.int .i64 0, .slice none 0 0] := by
    rw [hwa]
    have h := Blk.new (w.alloc (Obj.cells #[.int .i64 N, .slice A es.length c] 30)) 30 #[.int .i64 0, .slice none 0 0]
    rw [World.size_alloc] at h
    exact h
  have hsa : wa.heap.size = w.heap.size + 2 := by rw [hwa]; simp
  have HWA := Lib.hid hwa
  have HG := Lib.hid (implGraphOk N A c es wa hn ((hE.below hba).keep (fun _ _ => rfl) hba.size))
  clear hwa
  by_cases hg : graphB N es = true
  · rw [hg] at HG
    by_cases hz0 : 0 ≤ k
    · by_cases hz1 : k < (es.length : Int)
      · obtain ⟨i, rfl⟩ : ∃ i : Nat, k = (i : Int) := ⟨k.toNat, by omega⟩
        have hi : i < es.length := by omega
        have hpos : 0 < es.length := by omega
        obtain ⟨b, off, rfl, -, -⟩ := hE hpos
        have HC := fun W (hb : Below w.heap.size w W) => Lib.hid (cloneE_any W b off c es hn ((HE.out.below hb).keep (fun _ _ => rfl) hb.size) hpos)
        have HD : ∀ (w : World) (g cap : Nat) (cs : Array Value), Blk w g 62 cs → cs.toList.take (es.length * 2) = flat es → es.length ≤ cap → Hid (Calls Try.prog 67 #[.slice (some ⟨g, 0, none⟩) es.length cap, .int .i64 i, .int .i64 ((i : Int) + 1)] w fun e w' =>
            e = .returned (.slice (some ⟨g, 0, none⟩) (es.length - 1) cap) ∧ OwnE w' g (some ⟨g, 0, none⟩) (es.eraseIdx i) ∧ Below g w w' ∧ ∀ k, k ≠ g → w'.heap[k]? = w.heap[k]?) := fun w g cap cs h1 h2 h3 => Lib.hid (delE_any w g cap i (i + 1) es cs h1 h2 h3 hn hi rfl)
        have hwr : IntKind.i64.wrap ((i : Int) + 1) = (i : Int) + 1 := by rw [IntKind.wrap_i64]; omega
        have hle : (es.eraseIdx i).length = es.length - 1 := by rw [List.length_eraseIdx, if_pos hi]
        have HO : ∀ (A : Option Addr) (c : Nat) (w : World), EdgeS w w.heap.size A (es.eraseIdx i) → Hid (Calls Try.prog 45 #[.agg #[.int .i64 N, .slice A (es.length - 1) c]] w fun e w' => e = .returned (.bool (graphB N (es.eraseIdx i))) ∧ Below w.heap.size w w') := fun A c w h => Lib.hid (by
          have h2 := implGraphOk N A c (es.eraseIdx i) w (by omega) h
          rw [hle] at h2
          exact h2)
        have HK := Lib.hid (show dropK N es (i : Int) = graphB N (es.eraseIdx i) by
          unfold dropK
          rw [hg, decide_eq_true hz0, decide_eq_true hz1]
          simp)
        go_enter Try.func26, Try.ntmps26
        go_wp2_with fail
        rw [← HWA.out]
        refine HG.out.mono ?_
        rintro e w1 ⟨rfl, hb⟩
        have HB1 := Lib.hid (hk1.below hb (by omega))
        have HB2 := Lib.hid (hk2.below hb (by omega))
        have hb1 := hba.trans (hb.mono hba.size)
        obtain ⟨hc0, hc1, hf0, hf1, hl1⟩ := box_facts HB1.out
        obtain ⟨hd0, hd1, hg0, hg1, hl2⟩ := box_facts HB2.out
        clear hb hk1 hk2 HG
        go_wp2_with fail
        go_region_held3 (fun w' => w'.cell? ⟨w.heap.size, 0, none⟩ = some (.int .i64 N) ∧ w'.cell? ⟨w.heap.size, 1, none⟩ = some (.slice (some ⟨b, off, none⟩) es.length c) ∧ Below w1.heap.size w1 w')
          (first
            | exact ⟨hc0, hc1, (Below.refl _ _).drew⟩
            | exact keepS (by assumption) hb2 hl1
            | exact keepG (by assumption) hb3 hl1 (by first | exact hg | (have := hg; simp at this; omega))
            | exact keepS (by assumption) ((Below.refl _ _).alloc (Nat.le_refl _) _) hl1
            | exact keepR (by assumption) hsz3 hl1
            | exact keepW (by assumption) hl1 hsz2
            | exact keepW (by assumption) hl1 (Nat.le_refl _))
          (first
            | (go_at_call 65; refine (HC _ (by first | exact hb1.drew | exact hb1.drew.alloc hb1.size _ | exact (hb1.alloc hb1.size _).drew)).out.mono ?_; rintro e w2 ⟨g, cap, cs, rfl, hg, hblk, htk, hcap, hcm, hb2⟩; have hsz2 : w1.heap.size ≤ w2.heap.size := Nat.le_trans (by first | exact Nat.le_refl _ | (simp; done) | exact Nat.le_of_lt (by rw [World.size_alloc]; exact Nat.lt_succ_self _)) hb2.size)
            | (go_at_call 67; refine (HD _ g cap cs (by first | exact hblk | exact hblk.alloc _) htk hcap).out.mono ?_; rintro e w3 ⟨rfl, hO, hb3, hfr⟩
               have hsz3 : w1.heap.size ≤ w3.heap.size := Nat.le_trans hsz2 (Nat.le_trans (by first | exact Nat.le_refl _ | (simp; done) | exact Nat.le_of_lt (by rw [World.size_alloc]; exact Nat.lt_succ_self _)) hb3.size)
               first
                 | (have hbx := boxA hb2 hfr hg; obtain ⟨x0, x1, x2, x3, x4⟩ := box_facts hbx)
                 | (have hbx := boxD hb2 hfr hg; obtain ⟨x0, x1, x2, x3, x4⟩ := box_facts hbx)
                 | (have hbx := boxB hfr hblk.lt; obtain ⟨x0, x1, x2, x3, x4⟩ := box_facts hbx)
                 | skip))
        all_goals
          first
            | (obtain ⟨W4, hW4⟩ : ∃ W4 : World, W4 = w3.alloc (Obj.cells #[.int .i64 N, .slice (some ⟨g, 0, none⟩) (es.length - 1) cap] 30) := ⟨_, rfl⟩
               rw [← hW4]
               have hbk : Blk W4 w3.heap.size 30 #[.int .i64 N, .slice (some ⟨g, 0, none⟩) (es.length - 1) cap] := by rw [hW4]; exact Blk.new w3 _ _
               have hOW : OwnE W4 g (some ⟨g, 0, none⟩) (es.eraseIdx i) := by rw [hW4]; exact hO.below ((Below.refl _ _).alloc (Nat.le_refl _) _))
            | (obtain ⟨W4, hW4⟩ : ∃ W4 : World, W4 = ((w3.setCell ⟨w2.heap.size, 0, none⟩ (.int .i64 N)).setCell ⟨w2.heap.size, 1, none⟩ (.slice (some ⟨g, 0, none⟩) (es.length - 1) cap)) := ⟨_, rfl⟩
               rw [← hW4]
               have hbk : Blk W4 w2.heap.size 30 #[.int .i64 N, .slice (some ⟨g, 0, none⟩) (es.length - 1) cap] := by rw [hW4]; exact (hbx.set_ 0 _).set_ 1 _
               have hOW : OwnE W4 g (some ⟨g, 0, none⟩) (es.eraseIdx i) := by rw [hW4]; exact ownE_two hO (by have := hblk.lt; omega) _ _)
            | (obtain ⟨W4, hW4⟩ : ∃ W4 : World, W4 = ((w3.setCell ⟨w1.heap.size, 0, none⟩ (.int .i64 N)).setCell ⟨w1.heap.size, 1, none⟩ (.slice (some ⟨g, 0, none⟩) (es.length - 1) cap)) := ⟨_, rfl⟩
               rw [← hW4]
               have hbk : Blk W4 w1.heap.size 30 #[.int .i64 N, .slice (some ⟨g, 0, none⟩) (es.length - 1) cap] := by rw [hW4]; exact (hbx.set_ 0 _).set_ 1 _
               have hOW : OwnE W4 g (some ⟨g, 0, none⟩) (es.eraseIdx i) := by rw [hW4]; exact ownE_two hO (by have h := hg; simp at h; omega) _ _)
          have hg4 : g < W4.heap.size := by rw [hW4]; exact Nat.lt_of_lt_of_le (Nat.lt_of_lt_of_le hblk.lt (Nat.le_trans (by first | exact Nat.le_refl _ | exact Nat.le_of_lt (by rw [World.size_alloc]; exact Nat.lt_succ_self _)) hb3.size)) (by first | exact Nat.le_of_lt (by rw [World.size_alloc]; exact Nat.lt_succ_self _) | (simp [World.setCell]; done))
          have hb4 : Below w1.heap.size w1 W4 := by rw [hW4]; exact And.right (And.right (by assumption))
          have hgw : w1.heap.size ≤ g := Nat.le_trans (by first | exact Nat.le_refl _ | (simp; done)) hg
          have hb5 := hb1.trans (hb4.mono hb1.size)
          have HR := Lib.hid (HB2.out.below hb4 hl2)
          have HOW := Lib.hid hOW
          have HBK := Lib.hid hbk
          obtain ⟨y0, y1, y2, y3, y4⟩ := box_facts hbk
          clear hW4 hOW hbk hO hfr hb3 hb2 hblk htk
          go_wp2_with fail
          refine (HO _ _ _ HOW.out.edges).out.mono ?_
          rintro e w5 ⟨rfl, hb6⟩
          have HR5 := Lib.hid (HR.out.below hb6 (Nat.lt_of_lt_of_le hl2 hb4.size))
          have HB5 := Lib.hid (HBK.out.below hb6 y4)
          have HO5 := Lib.hid (HOW.out.below hb6)
          have hg5 : g < w5.heap.size := Nat.lt_of_lt_of_le hg4 hb6.size
          have hb7 := hb5.trans (hb6.mono hb5.size)
          have hb8 := hb4.trans (hb6.mono hb4.size)
          clear y0 y1 y2 y3 y4
          obtain ⟨y0, y1, y2, y3, y4⟩ := box_facts HB5.out
          obtain ⟨r0, r1, r2, r3, r4⟩ := box_facts HR5.out
          clear hb6 hb5 hb4 HR HBK HOW HO
          cases hg2 : graphB N (es.eraseIdx i) with
          | false =>
            rw [hg2] at HK
            have E0 := drop_no HK.out
            have E1 := Lib.hid E0.1
            have E2 := Lib.hid E0.2
            clear E0 hg2
            go_wp2
            obtain ⟨W6, hW6⟩ : ∃ W6 : World, W6 = ((w5.setCell ⟨w.heap.size + 1, 0, none⟩ (.int .i64 0)).setCell ⟨w.heap.size + 1, 1, none⟩ (.slice none 0 0)) := ⟨_, rfl⟩
            rw [← hW6]
            have hb9 : Blk W6 (w.heap.size + 1) 30 #[.int .i64 0, .slice none 0 0] := by rw [hW6]; exact (HR5.out.set_ 0 _).set_ 1 _
            have hbA : Below w.heap.size w W6 := by rw [hW6]; exact hb7.trans (below_two (by omega) _ _)
            obtain ⟨z0, z1, z2, z3, z4⟩ := box_facts hb9
            refine bodyPost_ret (v := .tuple #[.agg #[.int .i64 0, .slice none 0 0], .bool false]) (by simp [results, Try.results26, go_sem, z0, z1]) rfl ⟨none, 0, by rw [E1.out, E2.out, HK.out]; rfl, by rw [E2.out]; exact own_nil _ _ _, (fun _ _ h => by cases h), hbA⟩
          | true =>
            rw [hg2] at HK
            have E0 := drop_yes HK.out
            have E1 := Lib.hid E0.1
            have E2 := Lib.hid E0.2
            clear E0 hg2
            go_wp2
            obtain ⟨W6, hW6⟩ : ∃ W6 : World, W6 = ((w5.setCell ⟨w.heap.size + 1, 0, none⟩ (.int .i64 N)).setCell ⟨w.heap.size + 1, 1, none⟩ (.slice (some ⟨g, 0, none⟩) (es.length - 1) cap)) := ⟨_, rfl⟩
            rw [← hW6]
            have hb9 : Blk W6 (w.heap.size + 1) 30 #[.int .i64 N, .slice (some ⟨g, 0, none⟩) (es.length - 1) cap] := by rw [hW6]; exact (HR5.out.set_ 0 _).set_ 1 _
            have hbA : Below w.heap.size w W6 := by rw [hW6]; exact hb7.trans (below_two (by omega) _ _)
            have hg6 : g < W6.heap.size := by rw [hW6]; exact Nat.lt_of_lt_of_le hg5 (by simp [World.setCell])
            have hoA : OwnE W6 g (some ⟨g, 0, none⟩) (es.eraseIdx i) := by rw [hW6]; exact ownE_two HO5.out (by omega) _ _
            obtain ⟨z0, z1, z2, z3, z4⟩ := box_facts hb9
            refine bodyPost_ret (v := .tuple #[.agg #[.int .i64 N, .slice (some ⟨g, 0, none⟩) (es.length - 1) cap], .bool true]) (by simp [results, Try.results26, go_sem, z0, z1]) rfl ⟨some ⟨g, 0, none⟩, cap, by rw [E1.out, E2.out, HK.out]; show _ = Ending.returned (.tuple #[.agg #[.int .i64 N, .slice _ (es.eraseIdx i).length cap], .bool true]); rw [hle], by rw [E2.out]; exact hoA.mono (by omega), own_rng (by omega) hg6, hbA⟩
      · skip
        have HK := Lib.hid (show dropK N es k = false by unfold dropK; rw [decide_eq_false hz1]; simp)
        have E0 := drop_no HK.out
        have E1 := Lib.hid E0.1
        have E2 := Lib.hid E0.2
        clear E0
        have hz2 : (es.length : Int) ≤ k := by omega
        clear hz1 hg
        go_enter Try.func26, Try.ntmps26
        go_wp2_with fail
        rw [← HWA.out]
        refine HG.out.mono ?_
        rintro e w1 ⟨rfl, hb⟩
        have HB1 := Lib.hid (hk1.below hb (by omega))
        have HB2 := Lib.hid (hk2.below hb (by omega))
        have hb1 := hba.trans (hb.mono hba.size)
        obtain ⟨hc0, hc1, hf0, hf1, hl1⟩ := box_facts HB1.out
        obtain ⟨hd0, hd1, hg0, hg1, hl2⟩ := box_facts HB2.out
        clear hb hk1 hk2 HG
        go_wp2
        obtain ⟨W6, hW6⟩ : ∃ W6 : World, W6 = ((w1.setCell ⟨w.heap.size + 1, 0, none⟩ (.int .i64 0)).setCell ⟨w.heap.size + 1, 1, none⟩ (.slice none 0 0)) := ⟨_, rfl⟩
        rw [← hW6]
        have hb9 : Blk W6 (w.heap.size + 1) 30 #[.int .i64 0, .slice none 0 0] := by rw [hW6]; exact (HB2.out.set_ 0 _).set_ 1 _
        have hbA : Below w.heap.size w W6 := by rw [hW6]; exact hb1.trans (below_two (by omega) _ _)
        obtain ⟨z0, z1, z2, z3, z4⟩ := box_facts hb9
        refine bodyPost_ret (v := .tuple #[.agg #[.int .i64 0, .slice none 0 0], .bool false]) (by simp [results, Try.results26, go_sem, z0, z1]) rfl ⟨none, 0, by rw [E1.out, E2.out, HK.out]; rfl, by rw [E2.out]; exact own_nil _ _ _, (fun _ _ h => by cases h), hbA⟩
    · skip
      have HK := Lib.hid (show dropK N es k = false by unfold dropK; rw [decide_eq_false hz0]; simp)
      have E0 := drop_no HK.out
      have E1 := Lib.hid E0.1
      have E2 := Lib.hid E0.2
      clear E0
      have hz2 : k < 0 := by omega
      clear hz0 hg
      go_enter Try.func26, Try.ntmps26
      go_wp2_with fail
      rw [← HWA.out]
      refine HG.out.mono ?_
      rintro e w1 ⟨rfl, hb⟩
      have HB1 := Lib.hid (hk1.below hb (by omega))
      have HB2 := Lib.hid (hk2.below hb (by omega))
      have hb1 := hba.trans (hb.mono hba.size)
      obtain ⟨hc0, hc1, hf0, hf1, hl1⟩ := box_facts HB1.out
      obtain ⟨hd0, hd1, hg0, hg1, hl2⟩ := box_facts HB2.out
      clear hb hk1 hk2 HG
      go_wp2
      obtain ⟨W6, hW6⟩ : ∃ W6 : World, W6 = ((w1.setCell ⟨w.heap.size + 1, 0, none⟩ (.int .i64 0)).setCell ⟨w.heap.size + 1, 1, none⟩ (.slice none 0 0)) := ⟨_, rfl⟩
      rw [← hW6]
      have hb9 : Blk W6 (w.heap.size + 1) 30 #[.int .i64 0, .slice none 0 0] := by rw [hW6]; exact (HB2.out.set_ 0 _).set_ 1 _
      have hbA : Below w.heap.size w W6 := by rw [hW6]; exact hb1.trans (below_two (by omega) _ _)
      obtain ⟨z0, z1, z2, z3, z4⟩ := box_facts hb9
      refine bodyPost_ret (v := .tuple #[.agg #[.int .i64 0, .slice none 0 0], .bool false]) (by simp [results, Try.results26, go_sem, z0, z1]) rfl ⟨none, 0, by rw [E1.out, E2.out, HK.out]; rfl, by rw [E2.out]; exact own_nil _ _ _, (fun _ _ h => by cases h), hbA⟩
  · skip
    have hg0 : graphB N es = false := by simpa using hg
    rw [hg0] at HG
    have HK := Lib.hid (show dropK N es k = false by unfold dropK; rw [hg0]; simp)
    have E0 := drop_no HK.out
    have E1 := Lib.hid E0.1
    have E2 := Lib.hid E0.2
    clear E0
    clear hg0 hg
    go_enter Try.func26, Try.ntmps26
    go_wp2_with fail
    rw [← HWA.out]
    refine HG.out.mono ?_
    rintro e w1 ⟨rfl, hb⟩
    have HB1 := Lib.hid (hk1.below hb (by omega))
    have HB2 := Lib.hid (hk2.below hb (by omega))
    have hb1 := hba.trans (hb.mono hba.size)
    obtain ⟨hc0, hc1, hf0, hf1, hl1⟩ := box_facts HB1.out
    obtain ⟨hd0, hd1, hg0, hg1, hl2⟩ := box_facts HB2.out
    clear hb hk1 hk2 HG
    go_wp2
    obtain ⟨W6, hW6⟩ : ∃ W6 : World, W6 = ((w1.setCell ⟨w.heap.size + 1, 0, none⟩ (.int .i64 0)).setCell ⟨w.heap.size + 1, 1, none⟩ (.slice none 0 0)) := ⟨_, rfl⟩
    rw [← hW6]
    have hb9 : Blk W6 (w.heap.size + 1) 30 #[.int .i64 0, .slice none 0 0] := by rw [hW6]; exact (HB2.out.set_ 0 _).set_ 1 _
    have hbA : Below w.heap.size w W6 := by rw [hW6]; exact hb1.trans (below_two (by omega) _ _)
    obtain ⟨z0, z1, z2, z3, z4⟩ := box_facts hb9
    refine bodyPost_ret (v := .tuple #[.agg #[.int .i64 0, .slice none 0 0], .bool false]) (by simp [results, Try.results26, go_sem, z0, z1]) rfl ⟨none, 0, by rw [E1.out, E2.out, HK.out]; rfl, by rw [E2.out]; exact own_nil _ _ _, (fun _ _ h => by cases h), hbA⟩
end Go.Proofs.Ytbmihbbpdmpmpaa
