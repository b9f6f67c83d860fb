/- TreesOf: the program's side. -/
import Derived.Deep.LoopGhost
import Derived.Test.YtdpojcgeblbfeaaVTrsM
import Derived.Test.YtdpojcgeblbfeaaVNxt
import Derived.Test.YtdpojcgeblbfeaaVOutR
import Derived.Test.YtdpojcgeblbfeaaVPartS
import Derived.Test.YtdpojcgeblbfeaaVRcpI
set_option linter.all false
namespace Go.Proofs.Ytdpojcgeblbfeaa
open Go.RowKit

theorem clone_int (g k : Nat) (x : List Int) (w : World) (hk : k ≤ 6) (hl : x.length = k) (hB : Blk w g 3 (intCells x).toArray) :
    Calls Try.prog 88 #[.slice (some ⟨g, 0, none⟩) k k] w fun e w' => ∃ (A : Option Addr) (c : Nat), e = .returned (.slice A k c) ∧ OwnI w' w.heap.size A x ∧ Below w.heap.size w w' := by
  refine (Try.slices_Clone_int g 0 k k x w (by omega) (by omega) (fun j hj => by rw [hB.cell, Nat.zero_add]; simp [intCells, List.getD, hj])).mono ?_
  rintro e w' ⟨v, rfl, hown, _, hbl⟩
  rw [← hl, List.take_length] at hown
  obtain ⟨A, c, rfl⟩ : ∃ A c, v = .slice A x.length c := by
    rcases hown.2 with ⟨e, e0⟩ | ⟨g, cap, cur, e, _⟩
    · exact ⟨none, 0, by rw [e, e0]⟩
    · exact ⟨_, _, e⟩
  exact ⟨A, c, by rw [hl], OwnI.of_own hown, hbl⟩
structure ChoI (w W : World) (g M c : Nat) (A : Option Addr) (es : List (Int × Int)) (x : List Int) : Prop where
  b : GB w W (M : Int) A c es
  d : Blk W g 3 (intCells x).toArray
  gl : w.heap.size < g
theorem ChoI.below {w W W' : World} {g M c : Nat} {A : Option Addr} {es : List (Int × Int)} {x : List Int} (h : ChoI w W g M c A es x) (hb : Below W.heap.size W W') : ChoI w W' g M c A es x :=
  ⟨h.b.next hb, h.d.below hb h.d.lt, h.gl⟩
theorem ChoI.grown {w W W' : World} {g M c : Nat} {A : Option Addr} {es : List (Int × Int)} {x x' : List Int} {r : Option Nat} (h : ChoI w W g M c A es x) (hg : W.grownBy W' r) (hr : ∀ b, r = some b → w.heap.size < b) (hd : Blk W' g 3 (intCells x').toArray) : ChoI w W' g M c A es x' :=
  ⟨⟨Blk.grown h.b.box hg fun e => by have := hr _ e; omega, h.b.old.grown hg h.b.old.size fun b e => by have := hr b e; omega⟩, hd, h.gl⟩
theorem enumT_step {n k M : Nat} {es : List (Int × Int)} (hn : n = es.length) (hk : k = M - 1) {x x' : List Int} {L : List (List Int)} {b : Bool} (hx : AscP n k x) (hT : EnumTo (AscP n k) (fun x => connB (M : Int) (partL es x)) x L) (hA : NxtP n k x b x') :
    (b = true → AscP n k x' ∧ Enum (AscP n k) (fun x => connB (M : Int) (partL es x)) x' L ∧ rk (setsI n k) x' < rk (setsI n k) x) ∧ (b = false → L = treesL M es) := by
  constructor
  · rintro rfl
    rcases hA with ⟨-, v, hv, hlt, hh, rfl⟩ | ⟨h, -⟩
    · have hs := upA_succ hx hv hh
      have hb := upA_ok hx hv hlt
      exact ⟨hb, hT.next (fun y hy => hy.1.trans hx.1.symm) hs, rk_lt (setsI_mem hb) ((hs.less hx rfl).2 (.inr rfl))⟩
    · cases h
  · rintro rfl
    rcases hA with ⟨h, -⟩ | ⟨-, hh⟩
    · cases h
    · refine trees_is hT.st fun y => ?_
      rw [← hn, ← hk]
      exact hT.fin (fun y hy => hy.1.trans hx.1.symm) (fun y hy u hu => by
        rw [hx.1] at hu
        rw [hh u hu]
        exact hy.top hu) y
theorem enumT_len {M n k : Nat} {es : List (Int × Int)} (hn : n = es.length) (hk : k = M - 1) (hf : (treesL M es).length ≤ 400) {x : List Int} {L : List (List Int)} (h : Enum (AscP n k) (fun x => connB (M : Int) (partL es x)) x L) : L.length ≤ 400 := by
  refine Nat.le_trans (inj_len (f := fun x => x) (sorted_nodup h.st) (fun a ha => ?_) fun a _ b _ e => e) hf
  have h1 := (h.mem a).1 ha
  rw [treesL_mem, ← hn, ← hk]
  exact ⟨h1.1, conn_iff.1 h1.2.1⟩
theorem enumT_zero {n k : Nat} {good : List Int → Bool} (hk : k ≤ n) : AscP n k (ctuL (List.replicate k 0) 0 k 0) ∧ Enum (AscP n k) good (ctuL (List.replicate k 0) 0 k 0) [] := by
  have hl : (ctuL (List.replicate k 0) 0 k 0).length = k := by rw [ctuL_len]; simp
  have hget : ∀ u, u < k → (ctuL (List.replicate k 0) 0 k 0).getD u 0 = (u : Int) := fun u hu => by
    simp [ctuL, List.getD, hu]
  refine ⟨⟨hl, fun u hu => by rw [hget u hu]; omega, fun u hu => by rw [hget u (by omega), hget (u + 1) hu]; omega⟩, Enum.start (fun x hx => hx.1.trans hl.symm) fun x hx u hu => ?_⟩
  rw [hl] at hu
  rw [hget u hu]
  exact hx.bot hu
theorem asc_in {n k : Nat} {x : List Int} (h : AscP n k x) : ∀ i ∈ x, 0 ≤ i ∧ i < (n : Int) := fun i hi => by
  obtain ⟨u, hu⟩ := List.getElem?_of_mem hi
  have hul := (List.getElem?_eq_some_iff.1 hu).1
  have h4 := h.2.1 u (by rw [← h.1]; exact hul)
  rw [List.getD, hu] at h4
  exact h4
set_option maxRecDepth 100000 in
set_option maxHeartbeats 1000000 in
theorem implTrs (N : Int) (A : Option Addr) (c : Nat) (es : List (Int × Int)) (w : World) (hn : es.length ≤ 1048576) (hE : EdgeS w w.heap.size A es) :
    Calls Try.prog 36 #[.agg #[.int .i64 N, .slice A es.length c]] w (GivesSSP w (treesC N es) (treesOk N es)) := by
  obtain ⟨i1, hj, hy0, hy1, hy2⟩ := info_parts rowsInfo
  have HE := Lib.hid hE
  have G0 := GB.start w N A c es
  have HD := fun w h1 => Lib.hid (implGraphOk N A c es w hn h1)
  have HO := fun w h1 => Lib.hid (implTrees N A c es w hn h1)
  cases h1 : graphB N es with
  | false =>
    rw [h1] at HD
    have h0 : treesOk N es = false := by rw [treesOk, h1]; rfl
    rw [treesC_f h0, h0]
    clear h1 h0 hE HO
    go_enter Try.func36, Try.ntmps36
    go_wp2_with fail
    refine (HD _ (HE.out.up_ G0.old)).out.mono ?_
    rintro e w1 ⟨rfl, hb1⟩
    have G1 := Lib.hid (G0.next hb1)
    clear G0 hb1
    go_wp2
    go_ret2
    exact ⟨none, 0, rfl, fun hn => absurd hn (by simp), G1.out.old⟩
  | true =>
    rw [h1] at HD
    obtain ⟨TT, hT⟩ : ∃ TT, TT = treesB N es := ⟨_, rfl⟩
    by_cases h3 : TT ≤ 400
    · have h0 : treesOk N es = true := by rw [treesOk, h1, decide_eq_true (by rw [← hT]; exact h3)]; rfl
      obtain ⟨M, rfl, hP⟩ := trees_parts w h0
      rw [treesC_t h0, h0]
      rw [← hT] at HO
      have t2 : ¬ (400 : Int) < TT := by omega
      have hM6 := hP.m6
      have hM0 := hP.m0
      have hge := hP.ge
      have hn12 := hP.n12
      obtain ⟨k, hk⟩ : ∃ k, k = M - 1 := ⟨_, rfl⟩
      have hk5 : k ≤ 5 := by omega
      have hkn : k ≤ es.length := by omega
      have z1 : IntKind.i64.wrap ((M : Int) - 1) = (k : Int) := by rw [IntKind.wrap_i64]; omega
      have hmk := make_ints k (by omega)
      have HPO := Lib.hid (fun (g cd : Nat) (x : List Int) (W : World) (hx : AscP es.length k x) (h : ChoI w W g M c A es x) => partOf_any A (some ⟨g, 0, none⟩) c cd M es x W (by rw [hx.1]; omega) (asc_in hx) (HE.out.up_ h.b.old) (blk_ints h.d))
      have HIC := Lib.hid (fun (F : Option Addr) (cf : Nat) (x : List Int) (W : World) (hx : AscP es.length k x) (h : EdgeS W W.heap.size F (partL es x)) => isConnected_any M cf F (partL es x) W (part_edges hP.e (by rw [hx.1]; omega) (asc_in hx)) h)
      have HES := Lib.hid (fun (x x' : List Int) (L : List (List Int)) (b : Bool) (hx : AscP es.length k x) (hT : EnumTo (AscP es.length k) (fun x => connB (M : Int) (partL es x)) x L) (hA : NxtP es.length k x b x') => enumT_step rfl hk hx hT hA)
      have HEL := Lib.hid (fun (x : List Int) (L : List (List Int)) (h : Enum (AscP es.length k) (fun x => connB (M : Int) (partL es x)) x L) => enumT_len rfl hk hP.few h)
      have HEZ := Lib.hid (enumT_zero (good := fun x => connB (M : Int) (partL es x)) hkn)
      have HNX := Lib.hid (fun (g : Nat) (x : List Int) (W : World) (hx : AscP es.length k x) (h : Blk W g 3 (intCells x).toArray) => nextChoice_any g k es.length x W (by omega) hn12 hkn hx h)
      clear h1 h0 hE hT hP hge hk
      go_enter Try.func36, Try.ntmps36
      go_wp2_with fail
      refine (HD _ (HE.out.up_ G0.old)).out.mono ?_
      rintro e w1 ⟨rfl, hb1⟩
      have G1 := Lib.hid (G0.next hb1)
      have c0 := G1.out.c0
      have c1 := G1.out.c1
      clear G0 hb1
      go_wp2_with fail
      refine (HO _ (HE.out.up_ G1.out.old)).out.mono ?_
      rintro e w2 ⟨rfl, hb2⟩
      have G2 := Lib.hid (G1.out.next hb2)
      clear hb2 c0 c1 HO G1
      have c0 := G2.out.c0
      have c1 := G2.out.c1
      have hsz2 := G2.out.lt
      obtain ⟨W3, hW3⟩ : ∃ W : World, W = w2.alloc (.cells (intCells (List.replicate k 0)).toArray 3) := ⟨_, rfl⟩
      have hbg : Blk W3 w2.heap.size 3 (intCells (List.replicate k 0)).toArray := by rw [hW3]; exact Blk.new _ _ _
      have hb23 : Below w2.heap.size w2 W3 := by rw [hW3]; exact (Below.refl _ _).alloc (Nat.le_refl _) _
      have HC3 := Lib.hid (show ChoI w W3 w2.heap.size M c A es (List.replicate k 0) from ⟨G2.out.next hb23, hbg, hsz2⟩)
      have HW3 := Lib.hid hW3
      clear hW3 hbg hb23 G2
      go_wp2_with fail
      rw [← HW3.out]
      refine (countUp_any w2.heap.size 0 k k 0 (List.replicate k 0) W3 (by omega) (by omega) (by simp) HC3.out.d).mono ?_
      rintro e Wx ⟨rfl, hdx, hgx⟩
      have hcx := HC3.out.grown hgx (fun b e => by injection e with e; omega) hdx
      have HCX := Lib.hid hcx
      have hgX := hcx.d.lt
      have HWX := Lib.hid (show w.heap.size ≤ Wx.heap.size from hcx.b.old.size)
      obtain ⟨g, hg⟩ : ∃ g, g = w2.heap.size := ⟨_, rfl⟩
      obtain ⟨x0, hx0⟩ : ∃ x0, x0 = ctuL (List.replicate k 0) 0 k 0 := ⟨_, rfl⟩
      rw [← hg] at HCX hgX ⊢
      rw [← hx0] at HCX HEZ
      clear hg hx0 hcx hgx hdx HC3 HW3 c0 c1 hsz2 HD
      go_wp2
      go_loopg [4, 6] (rk (setsI es.length k) x0 + 1) (fun gg v b wr => ∃ (x : List Int) (L : List (List Int)) (bb : Bool), b = .bool bb ∧ Out Wx.heap.size wr v L ∧ ((bb = true ∧ ChoI w wr g M c A es x ∧ AscP es.length k x ∧ Enum (AscP es.length k) (fun x => connB (M : Int) (partL es x)) x L ∧ rk (setsI es.length k) x + 1 ≤ gg) ∨ (bb = false ∧ L = treesL M es ∧ Below w.heap.size w wr)) ∧ Wx.heap.size ≤ wr.heap.size)
      case atStart => exact ⟨x0, [], true, rfl, Out.nil _ _, .inl ⟨rfl, HCX.out, HEZ.out.1, HEZ.out.2, Nat.le_refl _⟩, Nat.le_refl _⟩
      case round =>
        obtain ⟨x, L, bb, rfl, ho, hcase, hws⟩ := hrel
        clear HCX
        rcases hcase with ⟨rfl, hcf, hx, hen, hrk⟩ | ⟨rfl, hL, hold⟩
        · have hxl : x.length = k := hx.1
          have HMX := Lib.hid hrk
          have HOU := Lib.hid ho
          have HEN := Lib.hid hen
          have q0 := hcf.b.c0
          have q1 := hcf.b.c1
          have HC0 := Lib.hid hcf
          have HPX := Lib.hid (HPO.out g k x wr hx hcf)
          rw [hxl] at HPX
          clear ho hen hcf hrk
          go_wp2_with fail
          refine HPX.out.mono ?_
          rintro e w4 ⟨F, cf, rfl, hF, hb4⟩
          have HF := Lib.hid hF
          have HC4 := Lib.hid (HC0.out.below hb4)
          have HO4 := Lib.hid (HOU.out.below hb4)
          have hs4 := hb4.size
          clear hF hb4 HC0 HOU HPX q0 q1
          go_wp2_with fail
          refine (HIC.out _ _ x _ hx HF.out).mono ?_
          rintro e w5 ⟨rfl, hb5⟩
          have HC5 := Lib.hid (HC4.out.below hb5)
          have HO5 := Lib.hid (HO4.out.below hb5)
          have hs5 := hb5.size
          clear hb5 HC4 HO4 HF
          have q0 := HC5.out.b.c0
          have q1 := HC5.out.b.c1
          cases hgood : connB (M : Int) (partL es x) with
          | true =>
            have HET := Lib.hid (HEN.out.yes hx hgood)
            have hLn := HEL.out x L HEN.out
            clear hgood HEN
            go_wp2_with fail
            refine (clone_int g k x w5 (by omega) hxl HC5.out.d).mono ?_
            rintro e w6 ⟨A6, c6, rfl, ho6, hb6⟩
            obtain ⟨us, ow, push⟩ := HO5.out.outer
            have HOW := Lib.hid (show (w6.alloc (.cells #[.slice A6 k c6] 28)).ownsRow Wx.heap.size 28 1 u4 L.length us from own_keep2 ow (fun q _ hq => (Below.heap_alloc _ _ q (Nat.lt_of_lt_of_le hq hb6.size)).trans (hb6.block q hq)))
            have HLT := Lib.hid ow.lt
            have HPU := Lib.hid (fun (w7 : World) (v' : Value) => push w6 w7 v' A6 c6 x k w6.heap.size hxl hb6 (by omega) ho6)
            have HC6 := Lib.hid (HC5.out.below hb6)
            have hs6 := hb6.size
            have n3 : L.length + 1 ≤ maxLen := by unfold maxLen; omega
            have n4 : (L.length + 1) * 24 ≤ 140737488355328 := by omega
            have n5 : Wx.heap.size ≤ (w6.alloc (.cells #[.slice A6 k c6] 28)).heap.size := by simp; omega
            clear ow push ho6 hb6 q0 q1
            go_wp2_with (at_builtin; refine wpList_append_own_at _ rfl _ _ 41 rfl Wx.heap.size 28 i1 (.slice none 0 0) 1 24 Try.underlying41 hj hy0 hy1 hy2 rfl (by decide) _ _ _ rfl HOW.out ⟨w6.heap.size, 0, none⟩ 1 1 [.slice A6 k c6] rfl rfl (one_cell _ _ rfl _ _) (fun u hu => by rw [List.mem_singleton] at hu; rw [hu]; rfl) n3 n4 n5 ?_)
            intro v' w7 hown7 hgrow7 _ hat7
            have hat8 : v'.ownBlock = u4.ownBlock ∨ v'.ownBlock = some (w6.heap.size + 1) := by
              rcases hat7 with h | h
              · exact .inl h
              · exact .inr (h.trans (by simp))
            have hba : Below w6.heap.size w6 (w6.alloc (.cells #[.slice A6 k c6] 28)) := (Below.refl _ _).alloc (Nat.le_refl _) _
            have ho7 := HPU.out w7 v' hown7 (by first | rfl | trivial) hgrow7 hat8
            have hgs7 := hgrow7.size
            simp only [World.size_alloc] at hgs7
            have hd7 : Blk w7 g 3 (intCells x).toArray := Blk.grown (HC6.out.below hba).d hgrow7 fun e => by have := (HLT.out _ e).1; omega
            have hc7 := (HC6.out.below hba).grown hgrow7 (fun b e => by have := (HLT.out _ e).1; have := HC6.out.gl; omega) hd7
            have HC7 := Lib.hid hc7
            have HO7 := Lib.hid ho7
            have q0 := hc7.b.c0
            have q1 := hc7.b.c1
            clear hown7 hgrow7 hat7 hat8 hba ho7 hd7 hc7 HPU HOW HLT HC6 HC5 HO5
            go_wp2_with fail
            refine (HNX.out g x w7 hx HC7.out.d).mono ?_
            rintro e w8 ⟨b', x', rfl, hA, hd8, hg8⟩
            have hst := HES.out x x' (L ++ [x]) b' hx HET.out hA
            have hs8 := hg8.size
            have HO8 := Lib.hid (HO7.out.next (w' := w8) (fun q h1 h2 => hg8.block q h2 (fun e => by injection e with e; omega)) hs8)
            have HN8 := Lib.hid (show (b' = true ∧ ChoI w w8 g M c A es x' ∧ AscP es.length k x' ∧ Enum (AscP es.length k) (fun x => connB (M : Int) (partL es x)) x' (L ++ [x]) ∧ rk (setsI es.length k) x' + 1 ≤ (if b' = true then rk (setsI es.length k) x' + 1 else 0)) ∨ (b' = false ∧ (L ++ [x]) = treesL M es ∧ Below w.heap.size w w8) from by
              cases b' with
              | true =>
                left
                obtain ⟨p1, p2, p3⟩ := hst.1 rfl
                refine ⟨rfl, HC7.out.grown hg8 (fun b e => by injection e with e; have := HC7.out.gl; omega) (hd8 rfl), p1, p2, ?_⟩
                rw [if_pos rfl]
                exact Nat.le_refl _
              | false =>
                right
                exact ⟨rfl, hst.2 rfl, HC7.out.b.old.grown hg8 HC7.out.b.old.size fun b e => by injection e with e; have := HC7.out.gl; omega⟩)
            have HRK := Lib.hid (show (if b' = true then rk (setsI es.length k) x' + 1 else 0) < rk (setsI es.length k) x + 1 from by
              cases b' with
              | true =>
                have := (hst.1 rfl).2.2
                rw [if_pos rfl]
                omega
              | false =>
                rw [if_neg (by decide)]
                omega)
            have hw8 : Wx.heap.size ≤ w8.heap.size := by omega
            clear hst hA hd8 hg8 q0 q1
            go_wp2
            go_roundg (if b' = true then rk (setsI es.length k) x' + 1 else 0)
            case measure => exact Nat.lt_of_lt_of_le HRK.out HMX.out
            case rel => exact ⟨x', (L ++ [x]), b', rfl, HO8.out, HN8.out, hw8⟩
          | false =>
            have HET := Lib.hid (HEN.out.no hgood)
            clear hgood HEN
            go_wp2_with fail
            refine (HNX.out g x w5 hx HC5.out.d).mono ?_
            rintro e w8 ⟨b', x', rfl, hA, hd8, hg8⟩
            have hst := HES.out x x' L b' hx HET.out hA
            have hs8 := hg8.size
            have HO8 := Lib.hid (HO5.out.next (w' := w8) (fun q h1 h2 => hg8.block q h2 (fun e => by injection e with e; omega)) hs8)
            have HN8 := Lib.hid (show (b' = true ∧ ChoI w w8 g M c A es x' ∧ AscP es.length k x' ∧ Enum (AscP es.length k) (fun x => connB (M : Int) (partL es x)) x' L ∧ rk (setsI es.length k) x' + 1 ≤ (if b' = true then rk (setsI es.length k) x' + 1 else 0)) ∨ (b' = false ∧ L = treesL M es ∧ Below w.heap.size w w8) from by
              cases b' with
              | true =>
                left
                obtain ⟨p1, p2, p3⟩ := hst.1 rfl
                refine ⟨rfl, HC5.out.grown hg8 (fun b e => by injection e with e; have := HC5.out.gl; omega) (hd8 rfl), p1, p2, ?_⟩
                rw [if_pos rfl]
                exact Nat.le_refl _
              | false =>
                right
                exact ⟨rfl, hst.2 rfl, HC5.out.b.old.grown hg8 HC5.out.b.old.size fun b e => by injection e with e; have := HC5.out.gl; omega⟩)
            have HRK := Lib.hid (show (if b' = true then rk (setsI es.length k) x' + 1 else 0) < rk (setsI es.length k) x + 1 from by
              cases b' with
              | true =>
                have := (hst.1 rfl).2.2
                rw [if_pos rfl]
                omega
              | false =>
                rw [if_neg (by decide)]
                omega)
            have hw8 : Wx.heap.size ≤ w8.heap.size := by omega
            clear hst hA hd8 hg8 q0 q1
            go_wp2
            go_roundg (if b' = true then rk (setsI es.length k) x' + 1 else 0)
            case measure => exact Nat.lt_of_lt_of_le HRK.out HMX.out
            case rel => exact ⟨x', L, b', rfl, HO8.out, HN8.out, hw8⟩
        · obtain ⟨A7, c7, rfl, hss⟩ := ho.fin
          subst hL
          have HSS := Lib.hid (hss.mono (base' := w.heap.size) (by have := HWX.out; omega))
          have HOLD := Lib.hid hold
          clear ho hss hold
          go_wp2
          go_ret2
          exact ⟨A7, c7, rfl, HSS.out, HOLD.out⟩
    · have h0 : treesOk N es = false := by rw [treesOk, decide_eq_false (by rw [← hT]; exact h3), Bool.and_false]
      rw [treesC_f h0, h0]
      rw [← hT] at HO
      have t2 : (400 : Int) < TT := by omega
      clear h1 h0 hE hT h3
      go_enter Try.func36, Try.ntmps36
      go_wp2_with fail
      refine (HD _ (HE.out.up_ G0.old)).out.mono ?_
      rintro e w1 ⟨rfl, hb1⟩
      have G1 := Lib.hid (G0.next hb1)
      have c0 := G1.out.c0
      have c1 := G1.out.c1
      clear G0 hb1
      go_wp2_with fail
      refine (HO _ (HE.out.up_ G1.out.old)).out.mono ?_
      rintro e w2 ⟨rfl, hb2⟩
      have G2 := Lib.hid (G1.out.next hb2)
      clear hb2
      go_wp2
      go_ret2
      exact ⟨none, 0, rfl, fun hn => absurd hn (by simp), G2.out.old⟩
end Go.Proofs.Ytdpojcgeblbfeaa
