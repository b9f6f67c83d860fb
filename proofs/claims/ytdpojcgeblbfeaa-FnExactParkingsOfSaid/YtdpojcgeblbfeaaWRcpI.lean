/- RecurrentPiles: the program's side. -/
import Derived.Deep.LoopGhost
import Derived.Test.YtdpojcgeblbfeaaWPilS
import Derived.Test.YtdpojcgeblbfeaaWAdv
import Derived.Test.YtdpojcgeblbfeaaWRkM
import Derived.Test.YtdpojcgeblbfeaaWOutR
import Derived.Test.YtdpojcgeblbfeaaWIrcI
set_option linter.all false
namespace Go.Proofs.Ytdpojcgeblbfeaa
open Go.RowKit

def GivesSSP (w : World) (rs : List (List Int)) (b : Bool) (e : Ending) (w' : World) : Prop :=
  ∃ (A : Option Addr) (c : Nat), e = .returned (.tuple #[.slice A rs.length c, .bool b]) ∧ OwnSS w' w.heap.size w'.heap.size A rs ∧ Below w.heap.size w w'
set_option maxRecDepth 100000 in
set_option maxHeartbeats 2000000 in
theorem clone_div (g M cd : Nat) (x : List Int) (w : World) (hM : M ≤ 6) (hl : x.length = M) (hB : Blk w g 3 (intCells x).toArray) :
    Calls Try.prog 76 #[.slice (some ⟨g, 0, none⟩) M cd] w fun e w' => ∃ (A : Option Addr) (c : Nat), e = .returned (.slice A M c) ∧ OwnI w' w.heap.size A x ∧ Below w.heap.size w w' := by
  obtain ⟨i0, hi, hz0, hz1, hz2⟩ := info_parts intInfo
  have HO := Lib.hid (own_emptyD w w.heap.size (Nat.le_refl _) 3)
  have HN := Lib.hid (show ∀ (i : Nat) (u : Value), (intCells x)[i]? = some u → (w.alloc (.cells #[] 3)).cell? ((⟨g, 0, none⟩ : Addr).add i) = some u from fun i u hu => by
    rw [Addr.add_lit, Nat.zero_add]
    have hg := hB.lt
    refine (((Below.refl _ _).alloc (Nat.le_refl _) _).cell (p := ⟨g, i, none⟩) hg).trans ?_
    rw [hB.cell]
    simpa using hu)
  have HL := Lib.hid (show (intCells x).length = M * 1 by rw [intCells, List.length_map, hl, Nat.mul_one])
  have HX := Lib.hid hl
  have HU := Lib.hid (show ∀ u ∈ intCells x, u.oneCell' = true from fun u hu => by
    simp only [intCells, List.mem_map] at hu
    obtain ⟨z, _, rfl⟩ := hu
    rfl)
  have m3 : 0 + M ≤ maxLen := by unfold maxLen; omega
  have m4 : (0 + M) * 8 ≤ 140737488355328 := by omega
  have m5 : w.heap.size ≤ (w.alloc (.cells #[] 3)).heap.size := by simp
  have q : ∀ (w : World) (a : Option Addr) (n c n' c' : Nat), (binOp .eql 62 (.slice a n c) (.slice none n' c')).run Try.prog w = .ok (.bool a.isNone) w := fun w a n c n' c' => Lib.run_eql_slice_nil w _ _ a n c n' c' Try.underlying62
  clear hB hl
  go_enter Try.func76, Try.ntmps76
  go_wp2_with (at_builtin; refine wpList_append_own _ rfl _ _ 62 rfl w.heap.size 3 i0 (.int .i64 0) 1 8 Try.underlying62 hi hz0 hz1 hz2 rfl (by decide) _ _ _ rfl HO.out ⟨g, 0, none⟩ M cd (intCells x) rfl HL.out HN.out HU.out m3 m4 m5 ?_)
  intro v5 w5 hown5 hgrow5 _
  have hown6 : w5.ownsRow w.heap.size 3 1 v5 M (intCells x) := by simpa using hown5
  have hb5 : Below w.heap.size w w5 := ((Below.refl _ _).alloc (Nat.le_refl _) _).grown hgrow5 (by simp) (fun q hq => by have := (HO.out.lt q hq).1; omega)
  obtain ⟨A5, c5, rfl⟩ : ∃ A5 c5, v5 = .slice A5 M c5 := by
    rcases hown6.2 with ⟨e, e0⟩ | ⟨g, cap, cur, e, _⟩
    · exact ⟨none, 0, by rw [e, e0]⟩
    · exact ⟨_, _, e⟩
  have HOI := Lib.hid (OwnI.of_own hown6)
  have HB5 := Lib.hid hb5
  clear hown5 hown6 hgrow5 hb5 HO HN
  go_wp2
  go_ret
  exact ⟨A5, c5, rfl, HOI.out, HB5.out⟩
structure CfgI (w W : World) (X g M cd cf k c : Nat) (F A : Option Addr) (es : List (Int × Int)) (x : List Int) : Prop where
  cfg : Blk W X 64 #[.slice (some ⟨g, 0, none⟩) M cd, .slice F M cf, .int .i64 (M : Int), .slice A es.length c, .int .i64 (k : Int)]
  d : Blk W g 3 (intCells x).toArray
  f : OwnI W w.heap.size F (fullTo es k M)
  xg : X ≠ g
  xl : w.heap.size ≤ X
  gl : w.heap.size ≤ g
  fg : ∀ b off, F = some ⟨b, off, none⟩ → b ≠ g
  old : Below w.heap.size w W
theorem blk_ints {W : World} {g : Nat} {x : List Int} (h : Blk W g 3 (intCells x).toArray) : IntS W W.heap.size (some ⟨g, 0, none⟩) x := fun _ => ⟨g, 0, rfl, h.lt, fun i z hz => by
  rw [Nat.zero_add, h.cell]
  simp [intCells, hz]⟩
theorem cfg_made {w Wb : World} {X g M cd cf k c : Nat} {F A : Option Addr} {es : List (Int × Int)} {x : List Int} {a0 a1 a2 a3 a4 : Value} (hx : Blk Wb X 64 #[a0, a1, a2, a3, a4]) (hd : Blk Wb g 3 (intCells x).toArray) (hf : OwnI Wb w.heap.size F (fullTo es k M)) (hXg : X ≠ g) (hxl : w.heap.size < X) (hgl : w.heap.size ≤ g)
    (hfg : ∀ b off, F = some ⟨b, off, none⟩ → b ≠ g) (hfX : ∀ b off, F = some ⟨b, off, none⟩ → b ≠ X) (old : Below w.heap.size w Wb) :
    CfgI w (((((Wb.setCell ⟨X, 0, none⟩ (.slice (some ⟨g, 0, none⟩) M cd)).setCell ⟨X, 1, none⟩ (.slice F M cf)).setCell ⟨X, 2, none⟩ (.int .i64 (M : Int))).setCell ⟨X, 3, none⟩ (.slice A es.length c)).setCell ⟨X, 4, none⟩ (.int .i64 (k : Int))) X g M cd cf k c F A es x := by
  have ownF : ∀ (W : World) (o : Nat) (u : Value), OwnI W w.heap.size F (fullTo es k M) → OwnI (W.setCell ⟨X, o, none⟩ u) w.heap.size F (fullTo es k M) := fun W o u h hp => by
    obtain ⟨b, off, e, h1, h2, h3⟩ := h hp
    have hbl := Below.heap_setCell W ⟨X, o, none⟩ u b (hfX b off e)
    exact ⟨b, off, e, h1, by simpa [World.setCell] using h2, fun i z hz => ⟨(World.cell?_of_block (a := ⟨b, off + i, none⟩) hbl).trans (h3 i z hz).1, (World.frozen?_of_block (a := ⟨b, off + i, none⟩) hbl).trans (h3 i z hz).2⟩⟩
  have gX : g ≠ X := fun e => hXg e.symm
  refine ⟨by have h := ((((hx.set_ 0 (.slice (some ⟨g, 0, none⟩) M cd)).set_ 1 (.slice F M cf)).set_ 2 (.int .i64 (M : Int))).set_ 3 (.slice A es.length c)).set_ 4 (.int .i64 (k : Int)); exact h, ((((hd.far gX _).far gX _).far gX _).far gX _).far gX _, ownF _ _ _ (ownF _ _ _ (ownF _ _ _ (ownF _ _ _ (ownF _ _ _ hf)))), hXg, Nat.le_of_lt hxl, hgl, hfg, ?_⟩
  have hX : w.heap.size ≤ X := Nat.le_of_lt hxl
  exact ((((old.setCell (p := ⟨X, 0, none⟩) hX _).setCell (p := ⟨X, 1, none⟩) hX _).setCell (p := ⟨X, 2, none⟩) hX _).setCell (p := ⟨X, 3, none⟩) hX _).setCell (p := ⟨X, 4, none⟩) hX _
theorem keep_five {w W : World} {X B : Nat} {p r : Addr} {a b u0 u1 u2 u3 u4 : Value} (h : W.cell? p = some a ∧ W.cell? r = some b ∧ Below B w W) (hp : p.block ≠ X ∧ r.block ≠ X) (hX : B ≤ X) :
    (((((W.setCell ⟨X, 0, none⟩ u0).setCell ⟨X, 1, none⟩ u1).setCell ⟨X, 2, none⟩ u2).setCell ⟨X, 3, none⟩ u3).setCell ⟨X, 4, none⟩ u4).cell? p = some a ∧ (((((W.setCell ⟨X, 0, none⟩ u0).setCell ⟨X, 1, none⟩ u1).setCell ⟨X, 2, none⟩ u2).setCell ⟨X, 3, none⟩ u3).setCell ⟨X, 4, none⟩ u4).cell? r = some b ∧ Below B w (((((W.setCell ⟨X, 0, none⟩ u0).setCell ⟨X, 1, none⟩ u1).setCell ⟨X, 2, none⟩ u2).setCell ⟨X, 3, none⟩ u3).setCell ⟨X, 4, none⟩ u4) :=
  keepG2 (keepG2 (keepG2 (keepG2 (keepG2 h hp hX _ _) hp hX _ _) hp hX _ _) hp hX _ _) hp hX _ _
theorem CfgI.below {w W W' : World} {X g M cd cf k c : Nat} {F A : Option Addr} {es : List (Int × Int)} {x : List Int} (h : CfgI w W X g M cd cf k c F A es x) (hb : Below W.heap.size W W') : CfgI w W' X g M cd cf k c F A es x :=
  ⟨h.cfg.below hb h.cfg.lt, h.d.below hb h.d.lt, h.f.below hb, h.xg, h.xl, h.gl, h.fg, h.old.trans (hb.mono h.old.size)⟩
theorem CfgI.grown {w W W' : World} {X g M cd cf k c : Nat} {F A : Option Addr} {es : List (Int × Int)} {x x' : List Int} {r : Option Nat} (h : CfgI w W X g M cd cf k c F A es x) (hg : W.grownBy W' r) (hX : r ≠ some X) (hF : ∀ b off, F = some ⟨b, off, none⟩ → r ≠ some b) (hr : ∀ b, r = some b → w.heap.size ≤ b) (hd : Blk W' g 3 (intCells x').toArray) : CfgI w W' X g M cd cf k c F A es x' :=
  ⟨Blk.grown h.cfg hg hX, hd, fun hp => by
    obtain ⟨b, off, e, h1, h2, h3⟩ := h.f hp
    have hbl := hg.block b h2 (fun e2 => hF b off e e2.symm)
    exact ⟨b, off, e, h1, Nat.lt_of_lt_of_le h2 hg.size, fun i z hz => ⟨(World.cell?_of_block (a := ⟨b, off + i, none⟩) hbl).trans (h3 i z hz).1, (World.frozen?_of_block (a := ⟨b, off + i, none⟩) hbl).trans (h3 i z hz).2⟩⟩, h.xg, h.xl, h.gl, h.fg, h.old.grown hg h.old.size hr⟩
theorem enum_step {M k : Nat} {es : List (Int × Int)} (hP : PilesL M k es) {x x' : List Int} {L : List (List Int)} {b : Bool} (hx : BoxP (fullTo es k M) x) (hT : EnumTo (BoxP (fullTo es k M)) (fun x => burnsB M k es (dualL M k es x)) x L) (hA : AdvP M x (fullTo es k M) b x') :
    (b = true → BoxP (fullTo es k M) x' ∧ Enum (BoxP (fullTo es k M)) (fun x => burnsB M k es (dualL M k es x)) x' L ∧ rk (boxS (fullTo es k M)) x' < rk (boxS (fullTo es k M)) x) ∧ (b = false → L = pilesL M k es) := by
  have hfl := fullTo_len es k M
  have hxl : x.length = M := hx.1.trans hfl
  have hup : ∀ u, u < M → (fullTo es k M).getD u 0 ≤ x.getD u 0 → x.getD u 0 = (fullTo es k M).getD u 0 := fun u hu h => by
    have := (hx.2 u (by omega)).2
    omega
  constructor
  · rintro rfl
    rcases hA with ⟨-, v, hv, hlt, hh, rfl⟩ | ⟨h, -⟩
    · have hs := upB_succ (v := v) hx (by omega) fun u h1 h2 => hup u (by omega) (hh u h1 (by omega))
      have hb := upB_ok hx (by omega) hlt
      refine ⟨hb, hT.next (fun y hy => hy.1.trans hx.1.symm) hs, rk_lt (boxS_mem hb) ((hs.less hx rfl).2 (.inr rfl))⟩
    · cases h
  · rintro rfl
    rcases hA with ⟨h, -⟩ | ⟨-, hh⟩
    · cases h
    · refine piles_is hP.km (vals_pos hP) (fun u hu => fullTo_get hu) hfl hT.st fun y => ?_
      exact hT.fin (fun y hy => hy.1.trans hx.1.symm) (fun y hy u hu => by
        have h1 := (hy.2 u (by omega)).2
        have h2 := hh u (by omega)
        omega) y
theorem enum_len {M k : Nat} {es : List (Int × Int)} (hP : PilesL M k es) (hf : (redL M k es).length ≤ 400) {x : List Int} {L : List (List Int)} (h : Enum (BoxP (fullTo es k M)) (fun x => burnsB M k es (dualL M k es x)) x L) : L.length ≤ 400 := by
  have hr : ∀ a ∈ L, ∃ r ∈ redL M k es, a = dualL M k es r := fun a ha => by
    have := (h.mem a).1 ha
    exact (box_dual (vals_pos hP) (fun u hu => fullTo_get hu) (fullTo_len es k M) hP.km).1 ⟨this.1, this.2.1⟩
  refine Nat.le_trans (inj_len (f := dualL M k es) (sorted_nodup h.st) (fun a ha => ?_) fun a ha b hb e => ?_) hf
  · obtain ⟨r, h1, rfl⟩ := hr a ha
    obtain ⟨r1, r2⟩ := red_zero hP.km h1
    rw [dual_dual r1 r2]
    exact h1
  · obtain ⟨r, h1, rfl⟩ := hr a ha
    obtain ⟨s, h2, rfl⟩ := hr b hb
    obtain ⟨r1, r2⟩ := red_zero hP.km h1
    obtain ⟨s1, s2⟩ := red_zero hP.km h2
    rw [dual_dual r1 r2, dual_dual s1 s2] at e
    rw [e]
theorem enum_zero {M k : Nat} {es : List (Int × Int)} (hP : PilesL M k es) : BoxP (fullTo es k M) (List.replicate M 0) ∧ Enum (BoxP (fullTo es k M)) (fun x => burnsB M k es (dualL M k es x)) (List.replicate M 0) [] := by
  have hfl := fullTo_len es k M
  have h0 : ∀ u, (List.replicate M (0 : Int)).getD u 0 = 0 := fun u => by simp [List.getD, List.getElem?_replicate]; split <;> rfl
  have hb : BoxP (fullTo es k M) (List.replicate M 0) := ⟨by simp [hfl], fun u hu => by
    rw [h0, fullTo_get (by omega)]
    split
    · omega
    · next e => have := vals_pos hP u (by omega) e; omega⟩
  exact ⟨hb, Enum.start (fun x hx => hx.1.trans hb.1.symm) fun x hx u hu => by
    rw [h0]
    exact (hx.2 u (by simpa [hfl] using hu)).1⟩
set_option maxRecDepth 100000 in
set_option maxHeartbeats 1000000 in
theorem implRcp (N : Int) (A : Option Addr) (c : Nat) (es : List (Int × Int)) (q : Int) (w : World) (hn : es.length ≤ 1048576) (hE : EdgeS w w.heap.size A es) :
    Calls Try.prog 25 #[.agg #[.int .i64 N, .slice A es.length c], .int .i64 q] w (GivesSSP w (pilesC N es q) (pilesOk N es q)) := by
  obtain ⟨i1, hj, hy0, hy1, hy2⟩ := info_parts rowsInfo
  have HE := Lib.hid hE
  have G0 := GB.start w N A c es
  have HD := fun w h1 => Lib.hid (implGraphOk N A c es w hn h1)
  have HO := fun w h1 => Lib.hid (implOrdG N A c es w hn h1)
  have HV := fun W => Lib.hid (hasVertex_any N (.slice A es.length c) q W ⟨_, _, _, rfl⟩)
  cases h1 : graphB N es with
  | false =>
    rw [h1] at HD
    have h0 : pilesOk N es q = false := by rw [pilesOk, h1]; rfl
    rw [pilesC_f h0, h0]
    clear h1 h0 hE HO HV
    go_enter Try.func25, Try.ntmps25
    go_wp2_with fail
    refine (HD _ (HE.out.up_ G0.old)).out.mono ?_
    rintro e w1 ⟨rfl, hb1⟩
    have G1 := Lib.hid (G0.next hb1)
    clear G0 hb1
    go_wp2
    go_ret2
    exact ⟨none, 0, rfl, fun hn => absurd hn (by simp), G1.out.old⟩
  | true =>
    rw [h1] at HD
    cases h2 : vB q N with
    | false =>
      rw [h2] at HV
      have h0 : pilesOk N es q = false := by rw [pilesOk, h1, h2]; rfl
      rw [pilesC_f h0, h0]
      clear h1 h0 hE HO h2
      go_enter Try.func25, Try.ntmps25
      go_wp2_with fail
      refine (HD _ (HE.out.up_ G0.old)).out.mono ?_
      rintro e w1 ⟨rfl, hb1⟩
      have G1 := Lib.hid (G0.next hb1)
      have c0 := G1.out.c0
      have c1 := G1.out.c1
      clear G0 hb1
      go_wp2_with fail
      refine (HV _).out.mono ?_
      rintro e w2 ⟨rfl, hb2⟩
      have G2 := Lib.hid (G1.out.next hb2)
      clear hb2
      go_wp2
      go_ret2
      exact ⟨none, 0, rfl, fun hn => absurd hn (by simp), G2.out.old⟩
    | true =>
      rw [h2] at HV
      obtain ⟨TT, hT⟩ : ∃ TT, TT = treesB N es := ⟨_, rfl⟩
      by_cases h3 : TT ≤ 400
      · have h0 : pilesOk N es q = true := by rw [pilesOk, h1, h2, decide_eq_true (by rw [← hT]; exact h3)]; rfl
        obtain ⟨M, k, rfl, rfl, hP⟩ := piles_parts h0
        rw [pilesC_t h0, h0]
        rw [← hT] at HO
        have t2 : ¬ (400 : Int) < TT := by omega
        have t3 : decide ((400 : Int) < TT) = false := decide_eq_false t2
        have hM6 := hP.m6
        have hM0 := hP.m0
        have hkM := hP.km
        have HPI := Lib.hid hP
        have HCF := Lib.hid (fun (D : Option Addr) (cd : Nat) (W : World) (h : EdgeS W W.heap.size A es) => cfg_any A D c cd M k es W hP.g hP.km hP.n12 h)
        have hmk := make_ints M (by omega)
        have hfl := fullTo_len es k M
        have hf12 : ∀ u, -1 ≤ (fullTo es k M).getD u 0 ∧ (fullTo es k M).getD u 0 ≤ 12 := fun u => by
          by_cases hu : u < M
          · rw [fullTo_get hu]
            have := valP_lim u es fun e he => (hP.ed e he).2.1
            have := hP.n12
            split <;> omega
          · rw [List.getD, List.getElem?_eq_none (by omega)]
            simp
        have hbx : ∀ x, BoxP (fullTo es k M) x → x.length = M ∧ (∀ u, 0 ≤ x.getD u 0 ∧ x.getD u 0 ≤ 12) ∧ x.getD k 0 = 0 := fun x hx => by
          have hxl : x.length = M := hx.1.trans hfl
          refine ⟨hxl, fun u => ?_, ?_⟩
          · by_cases hu : u < M
            · have h1 := hx.2 u (by omega)
              have h2 := hf12 u
              omega
            · rw [List.getD, List.getElem?_eq_none (by omega)]
              simp
          · have h1 := hx.2 k (by omega)
            rw [fullTo_get hkM, if_pos rfl] at h1
            omega
        have HBX := Lib.hid hbx
        have HCB := Lib.hid (fun (X g cf : Nat) (F : Option Addr) (x : List Int) (W : World) (hx : BoxP (fullTo es k M) x) (h : CfgI w W X g M M cf k c F A es x) => comes_any A (some ⟨g, 0, none⟩) F c M cf M k es x W hP.km hP.m6 hP.n12 hP.ed (hbx x hx).1 (fun u => by have := (hbx x hx).2.1 u; omega) (hbx x hx).2.2 (HE.out.up_ h.old) (blk_ints h.d) h.f.ints)
        have HADV := Lib.hid (fun (X g cf : Nat) (F : Option Addr) (x : List Int) (W : World) (hx : BoxP (fullTo es k M) x) (h : CfgI w W X g M M cf k c F A es x) => advance_any g M M cf F x (fullTo es k M) W hP.m6 (hbx x hx).1 hfl (fun u => by have := (hbx x hx).2.1 u; omega) h.d h.f.ints h.fg)
        have HES := Lib.hid (fun (x x' : List Int) (L : List (List Int)) (b : Bool) => enum_step (k := k) (x := x) (x' := x') (L := L) (b := b) hP)
        have HEZ := Lib.hid (enum_zero hP)
        have HEL := Lib.hid (fun (x : List Int) (L : List (List Int)) (h : Enum (BoxP (fullTo es k M)) (fun x => burnsB M k es (dualL M k es x)) x L) => enum_len hP (redL_few hP.g hP.km (red_has hP.g A w (HE.out) 0 hP.m0) hP.few) h)
        clear hf12 hbx hfl
        clear h1 h2 h0 hE hT hP
        go_enter Try.func25, Try.ntmps25
        go_wp2_with fail
        refine (HD _ (HE.out.up_ G0.old)).out.mono ?_
        rintro e w1 ⟨rfl, hb1⟩
        have G1 := Lib.hid (G0.next hb1)
        have c0 := G1.out.c0
        have c1 := G1.out.c1
        clear G0 hb1
        go_wp2_with fail
        refine (HV _).out.mono ?_
        rintro e w2 ⟨rfl, hb2⟩
        have G2 := Lib.hid (G1.out.next hb2)
        clear hb2 c0 c1 G1
        have c0 := G2.out.c0
        have c1 := G2.out.c1
        go_wp2_with fail
        refine (HO _ (HE.out.up_ G2.out.old)).out.mono ?_
        rintro e w3 ⟨rfl, hb3⟩
        have G3 := Lib.hid (G2.out.next hb3)
        clear hb3 c0 c1 G2 HO
        have c0 := G3.out.c0
        have c1 := G3.out.c1
        have hlg := G3.out.lt
        have HP0 := Lib.hid (show w3.drew.cell? ⟨w.heap.size, 0, none⟩ = some (.int .i64 (M : Int)) ∧ w3.drew.cell? ⟨w.heap.size, 1, none⟩ = some (.slice A es.length c) ∧ Below w.heap.size w w3.drew from ⟨c0, c1, G3.out.old.drew⟩)
        go_wp2_with fail
        refine wp_region_held_drew (S := fun W : World => W.cell? ⟨w.heap.size, 0, none⟩ = some (.int .i64 (M : Int)) ∧ W.cell? ⟨w.heap.size, 1, none⟩ = some (.slice A es.length c) ∧ Below w.heap.size w W) (by kernel_rfl) HP0.out (fun hH => ?_)
        refine wpAnyH_on 0 (some 23) (.agg #[.int .i64 (M : Int), .slice A es.length c]) rfl (by kernel_rfl) (by kernel_rfl) (by kernel_rfl) (fun _ _ _ h => h) rfl HP0.out (by rfl) ?_ ?_
        · intro W hSW
          obtain ⟨s1, s2, s3⟩ := hSW
          go_simp
        try simp only [Act.put, List.setIfInBounds_toArray, List.set_cons_zero, List.set_cons_succ]
        refine wpAnyH_on 1 (some 24) (.pointer (some ⟨w.heap.size, 0, none⟩)) rfl (by kernel_rfl) (by kernel_rfl) (by kernel_rfl) (fun _ _ _ h => h) rfl HP0.out (by rfl) ?_ ?_
        · intro W hSW
          obtain ⟨s1, s2, s3⟩ := hSW
          go_simp
        try simp only [Act.put, List.setIfInBounds_toArray, List.set_cons_zero, List.set_cons_succ]
        refine wpAnyH_on 2 (some 25) (.int .i64 (M : Int)) rfl (by kernel_rfl) (by kernel_rfl) (by kernel_rfl) (fun _ _ _ h => h) rfl HP0.out (by rfl) ?_ ?_
        · intro W hSW
          obtain ⟨s1, s2, s3⟩ := hSW
          go_simp
        try simp only [Act.put, List.setIfInBounds_toArray, List.set_cons_zero, List.set_cons_succ]
        refine wpAnyH_on 4 (some 27) (.int .i64 (k : Int)) rfl (by kernel_rfl) (by kernel_rfl) (by kernel_rfl) (fun _ _ _ h => h) rfl HP0.out (by rfl) ?_ ?_
        · intro W hSW
          obtain ⟨s1, s2, s3⟩ := hSW
          go_simp
        try simp only [Act.put, List.setIfInBounds_toArray, List.set_cons_zero, List.set_cons_succ]
        refine wpAnyH_ready (rs := [3, 6]) (by kernel_rfl) (by simp) ?_
        refine AllReadyH.cons rfl (fun K hK => ?_) ?_
        · skip
          go_simp
          refine hK.out _ _ (keepG1 hH ((Below.refl _ _).alloc (Nat.le_refl _) _) (Nat.le_refl _)) (fun hH1 => ?_)
          clear hK K
          try simp only [Act.put, List.setIfInBounds_toArray, List.set_cons_zero, List.set_cons_succ]
          refine wpAnyH_ready (rs := [5, 6]) (by kernel_rfl) (by simp) ?_
          refine AllReadyH.cons rfl (fun K hK => ?_) ?_
          · skip
            go_simp
            refine (HCF.out _ _ _ (HE.out.up_ hH1.2.2)).mono ?_
            rintro e w4 ⟨F, cf, rfl, ho4, hb4⟩
            refine hK.out _ _ (keepG1 hH1 hb4 (Nat.le_refl _)) (fun hH2 => ?_)
            clear hK K
            try simp only [Act.put, List.setIfInBounds_toArray, List.set_cons_zero, List.set_cons_succ]
            refine wpAnyH_ready (rs := [6]) (by kernel_rfl) (by simp) ?_
            refine AllReadyH.cons rfl (fun K hK => ?_) AllReadyH.nil
            go_simp
            refine hK.out _ _ (keepG1 hH2 ((Below.refl _ _).alloc (Nat.le_refl _) _) (Nat.le_refl _)) (fun hH3 => ?_)
            clear hK K
            try simp only [Act.put, List.setIfInBounds_toArray, List.set_cons_zero, List.set_cons_succ]
            have hb4s : w3.heap.size + 1 ≤ w4.heap.size := by have := hb4.size; simpa using this
            have hdr : w3.drew.heap.size = w3.heap.size := rfl
            have hxx : Blk (w4.alloc (Obj.cells #[.slice none 0 0, .slice none 0 0, .int .i64 0, .slice none 0 0, .int .i64 0] 64)) (w4.heap.size) 64 #[.slice none 0 0, .slice none 0 0, .int .i64 0, .slice none 0 0, .int .i64 0] := Blk.new w4 _ _
            have hdd : Blk (w4.alloc (Obj.cells #[.slice none 0 0, .slice none 0 0, .int .i64 0, .slice none 0 0, .int .i64 0] 64)) (w3.heap.size) 3 (intCells (List.replicate M 0)).toArray := ((Blk.new w3.drew _ _).below hb4 (by simp)).alloc _
            have hfr : ∀ b off, F = some ⟨b, off, none⟩ → w3.heap.size + 1 ≤ b ∧ b < w4.heap.size := fun b off e => by
              obtain ⟨b', off', e', h1, h2, -⟩ := ho4 (by rw [fullTo_len]; omega)
              rw [e] at e'
              injection e' with e'
              injection e' with e1 _ _
              subst e1
              exact ⟨by simpa using h1, h2⟩
            have hff : OwnI (w4.alloc (Obj.cells #[.slice none 0 0, .slice none 0 0, .int .i64 0, .slice none 0 0, .int .i64 0] 64)) w.heap.size F (fullTo es k M) := (ho4.mono (by have := G3.out.old.size; simp; omega)).below ((Below.refl _ _).alloc (Nat.le_refl _) _)
            have hxf := Blk.new w4 64 #[.slice (some ⟨w3.heap.size, 0, none⟩) M M, .slice F M cf, .int .i64 (M : Int), .slice A es.length c, .int .i64 (k : Int)]
            have hci : CfgI w (w4.alloc (Obj.cells #[.slice (some ⟨w3.heap.size, 0, none⟩) M M, .slice F M cf, .int .i64 (M : Int), .slice A es.length c, .int .i64 (k : Int)] 64)) w4.heap.size w3.heap.size M M cf k c F A es (List.replicate M 0) := ⟨hxf, ((Blk.new w3.drew _ _).below hb4 (by simp)).alloc _, (ho4.mono (by have := G3.out.old.size; simp; omega)).below ((Below.refl _ _).alloc (Nat.le_refl _) _), (by omega), (by omega), (by omega), (fun b off e => by have := hfr b off e; omega), hH2.2.2.trans (((Below.refl _ _).alloc (Nat.le_refl _) _).mono hH2.2.2.size)⟩
            have hxl2 := hxx.lt
            have hgl2 := hdd.lt
            obtain ⟨y0, y1, y2, y3, y4, y5⟩ := five_facts hxx
            have f0 := y5 0
            have f1 := y5 1
            have f2 := y5 2
            have f3 := y5 3
            have f4 := y5 4
            refine wpAnyH_ready (rs := [7]) (by kernel_rfl) (by simp) ?_
            refine AllReadyH.cons rfl (fun K hK => ?_) AllReadyH.nil
            go_simp
            have hS4 := keepG1 hH2 (((Below.refl w4.heap.size w4).alloc (Nat.le_refl _) (Obj.cells #[.slice (some ⟨w3.heap.size, 0, none⟩) M M, .slice F M cf, .int .i64 (M : Int), .slice A es.length c, .int .i64 (k : Int)] 64))) (Nat.le_refl _)
            refine hK.out _ _ (by with_reducible exact hS4) (fun hH4 => ?_)
            clear hK K
            try simp only [Act.put, List.setIfInBounds_toArray, List.set_cons_zero, List.set_cons_succ]
            refine wpAnyH_done (by kernel_rfl) ?_ _
            obtain ⟨Wx, hWx⟩ : ∃ W : World, W = w4.alloc (Obj.cells #[.slice (some ⟨w3.heap.size, 0, none⟩) M M, .slice F M cf, .int .i64 (M : Int), .slice A es.length c, .int .i64 (k : Int)] 64) := ⟨_, rfl⟩
            rw [← hWx] at hci ⊢
            have HCI := Lib.hid hci
            have hX9 := hci.cfg.lt
            have hG9 := hci.d.lt
            have hFb9 : ∀ b off, F = some ⟨b, off, none⟩ → b < Wx.heap.size := fun b off e => by
              obtain ⟨b', off', e', -, h2, -⟩ := hci.f (by rw [fullTo_len]; omega)
              rw [e] at e'
              injection e' with e'
              injection e' with e1 _ _
              omega
            have HFB := Lib.hid hFb9
            have HWX := Lib.hid (show w.heap.size ≤ Wx.heap.size from hci.old.size)
            clear hci hWx hFb9 hH hH1 hH2 hH3 hH4 hb4 ho4 hff hxx hdd hfr y0 y1 y2 y3 y4 y5 f0 f1 f2 f3 f4 HCF HP0 HD HV G3 hS4 hb4s c0 c1
            try clear hxf
            go_wp2
            go_loopg [6, 8] (rk (boxS (fullTo es k M)) (List.replicate M 0) + 1) (fun gg v b wr => ∃ (x : List Int) (L : List (List Int)) (bb : Bool), b = .bool bb ∧ Out Wx.heap.size wr v L ∧ ((bb = true ∧ CfgI w wr w4.heap.size w3.heap.size M M cf k c F A es x ∧ BoxP (fullTo es k M) x ∧ Enum (BoxP (fullTo es k M)) (fun x => burnsB M k es (dualL M k es x)) x L ∧ rk (boxS (fullTo es k M)) x + 1 ≤ gg) ∨ (bb = false ∧ L = pilesL M k es ∧ Below w.heap.size w wr)) ∧ Wx.heap.size ≤ wr.heap.size)
            case atStart => exact ⟨List.replicate M 0, [], true, rfl, Out.nil _ _, .inl ⟨rfl, HCI.out, HEZ.out.1, HEZ.out.2, Nat.le_refl _⟩, Nat.le_refl _⟩
            case round =>
              obtain ⟨x, L, bb, rfl, ho, hcase, hws⟩ := hrel
              clear HCI
              rcases hcase with ⟨rfl, hcf, hx, hen, hrk⟩ | ⟨rfl, hL, hold⟩
              · have hxl := (HBX.out x hx).1
                have HMX := Lib.hid hrk
                have HOU := Lib.hid ho
                have HEN := Lib.hid hen
                obtain ⟨x0, x1, x2, x3, x4, -⟩ := five_facts hcf.cfg
                have HC0 := Lib.hid hcf
                clear ho hen hcf hrk
                go_wp2_with fail
                refine (HCB.out _ _ _ _ x wr hx HC0.out).mono ?_
                rintro e w5 ⟨rfl, hb5⟩
                have HC5 := Lib.hid (HC0.out.below hb5)
                have HO5 := Lib.hid (HOU.out.below hb5)
                have hs5 := hb5.size
                clear x0 x1 x2 x3 x4 hb5 HC0 HOU
                obtain ⟨x0, x1, x2, x3, x4, -⟩ := five_facts HC5.out.cfg
                cases hgood : burnsB M k es (dualL M k es x) with
                | true =>
                  have hgd : decide ((burntL M es (dualL M k es x) (k : Int)).length = M) = true := hgood
                  rw [hgd]
                  have HET := Lib.hid (HEN.out.yes hx hgood)
                  have hLn := HEL.out x L HEN.out
                  clear hgd hgood HEN
                  go_wp2_with fail
                  refine (clone_div _ M M x w5 hM6 hxl HC5.out.d).mono ?_
                  rintro e w6 ⟨A6, c6, rfl, ho6, hb6⟩
                  obtain ⟨us, ow, push⟩ := HO5.out.outer
                  have HOW := Lib.hid (show (w6.alloc (.cells #[.slice A6 M c6] 28)).ownsRow Wx.heap.size 28 1 u6 L.length us from own_keep2 ow (fun q _ hq => (Below.heap_alloc _ _ q (Nat.lt_of_lt_of_le hq hb6.size)).trans (hb6.block q hq)))
                  have HLT := Lib.hid ow.lt
                  have HPU := Lib.hid (fun (w7 : World) (v' : Value) => push w6 w7 v' A6 c6 x M w6.heap.size hxl hb6 (by omega) ho6)
                  have HC6 := Lib.hid (HC5.out.below hb6)
                  have hs6 := hb6.size
                  have n3 : L.length + 1 ≤ maxLen := by unfold maxLen; omega
                  have n4 : (L.length + 1) * 24 ≤ 140737488355328 := by omega
                  have n5 : Wx.heap.size ≤ (w6.alloc (.cells #[.slice A6 M c6] 28)).heap.size := by simp; omega
                  clear ow push ho6 hb6 x0 x1 x2 x3 x4
                  go_wp2_with (at_builtin; refine wpList_append_own_at _ rfl _ _ 41 rfl Wx.heap.size 28 i1 (.slice none 0 0) 1 24 Try.underlying41 hj hy0 hy1 hy2 rfl (by decide) _ _ _ rfl HOW.out ⟨w6.heap.size, 0, none⟩ 1 1 [.slice A6 M c6] rfl rfl (one_cell _ _ rfl _ _) (fun u hu => by rw [List.mem_singleton] at hu; rw [hu]; rfl) n3 n4 n5 ?_)
                  intro v' w7 hown7 hgrow7 _ hat7
                  have hat8 : v'.ownBlock = u6.ownBlock ∨ v'.ownBlock = some (w6.heap.size + 1) := by
                    rcases hat7 with h | h
                    · exact .inl h
                    · exact .inr (h.trans (by simp))
                  have hba : Below w6.heap.size w6 (w6.alloc (.cells #[.slice A6 M c6] 28)) := (Below.refl _ _).alloc (Nat.le_refl _) _
                  have ho7 := HPU.out w7 v' hown7 (by first | rfl | trivial) hgrow7 hat8
                  have hgs7 := hgrow7.size
                  simp only [World.size_alloc] at hgs7
                  have hd7 : Blk w7 w3.heap.size 3 (intCells x).toArray := Blk.grown (HC6.out.below hba).d hgrow7 fun e => by have := (HLT.out _ e).1; omega
                  have hc7 := (HC6.out.below hba).grown hgrow7 (fun e => by have := (HLT.out _ e).1; omega) (fun b off e e2 => by have := (HLT.out _ e2).1; have := HFB.out b off e; omega) (fun b e => by have := (HLT.out _ e).1; have := HC6.out.gl; omega) hd7
                  have HC7 := Lib.hid hc7
                  have HO7 := Lib.hid ho7
                  obtain ⟨x0, x1, x2, x3, x4, -⟩ := five_facts hc7.cfg
                  clear hown7 hgrow7 hat7 hat8 hba ho7 hd7 hc7 HPU HOW HLT HC6 HC5 HO5
                  go_wp2_with fail
                  refine (HADV.out _ _ _ _ x w7 hx HC7.out).mono ?_
                  rintro e w8 ⟨b', x', rfl, hA, hd8, hg8⟩
                  have hst := HES.out x x' (L ++ [x]) b' hx HET.out hA
                  have hs8 := hg8.size
                  have HO8 := Lib.hid (HO7.out.next (w' := w8) (fun q h1 h2 => hg8.block q h2 (fun e => by injection e with e; omega)) hs8)
                  have HN8 := Lib.hid (show (b' = true ∧ CfgI w w8 w4.heap.size w3.heap.size M M cf k c F A es x' ∧ BoxP (fullTo es k M) x' ∧ Enum (BoxP (fullTo es k M)) (fun x => burnsB M k es (dualL M k es x)) x' (L ++ [x]) ∧ rk (boxS (fullTo es k M)) x' + 1 ≤ (if b' = true then rk (boxS (fullTo es k M)) x' + 1 else 0)) ∨ (b' = false ∧ (L ++ [x]) = pilesL M k es ∧ Below w.heap.size w w8) from by
                    cases b' with
                    | true =>
                      left
                      obtain ⟨q1, q2, q3⟩ := hst.1 rfl
                      refine ⟨rfl, HC7.out.grown hg8 (fun e => by injection e with e; exact HC7.out.xg e.symm) (fun b off e e2 => by injection e2 with e2; exact HC7.out.fg b off e e2.symm) (fun b e => by injection e with e; have := HC7.out.gl; omega) (hd8 rfl), q1, q2, ?_⟩
                      rw [if_pos rfl]
                      exact Nat.le_refl _
                    | false =>
                      right
                      refine ⟨rfl, hst.2 rfl, HC7.out.old.grown hg8 HC7.out.old.size fun b e => by injection e with e; have := HC7.out.gl; omega⟩)
                  have HRK := Lib.hid (show (if b' = true then rk (boxS (fullTo es k M)) x' + 1 else 0) < rk (boxS (fullTo es k M)) x + 1 from by
                    cases b' with
                    | true =>
                      have := (hst.1 rfl).2.2
                      rw [if_pos rfl]
                      omega
                    | false =>
                      rw [if_neg (by decide)]
                      omega)
                  have hw8 : Wx.heap.size ≤ w8.heap.size := by omega
                  clear hst hA hd8 hg8
                  go_wp2
                  go_roundg (if b' = true then rk (boxS (fullTo es k M)) x' + 1 else 0)
                  case measure => exact Nat.lt_of_lt_of_le HRK.out HMX.out
                  case rel => exact ⟨x', (L ++ [x]), b', rfl, HO8.out, HN8.out, hw8⟩
                | false =>
                  have hgd : decide ((burntL M es (dualL M k es x) (k : Int)).length = M) = false := hgood
                  rw [hgd]
                  have HET := Lib.hid (HEN.out.no hgood)
                  clear hgd hgood HEN
                  go_wp2_with fail
                  refine (HADV.out _ _ _ _ x w5 hx HC5.out).mono ?_
                  rintro e w8 ⟨b', x', rfl, hA, hd8, hg8⟩
                  have hst := HES.out x x' L b' hx HET.out hA
                  have hs8 := hg8.size
                  have HO8 := Lib.hid (HO5.out.next (w' := w8) (fun q h1 h2 => hg8.block q h2 (fun e => by injection e with e; omega)) hs8)
                  have HN8 := Lib.hid (show (b' = true ∧ CfgI w w8 w4.heap.size w3.heap.size M M cf k c F A es x' ∧ BoxP (fullTo es k M) x' ∧ Enum (BoxP (fullTo es k M)) (fun x => burnsB M k es (dualL M k es x)) x' L ∧ rk (boxS (fullTo es k M)) x' + 1 ≤ (if b' = true then rk (boxS (fullTo es k M)) x' + 1 else 0)) ∨ (b' = false ∧ L = pilesL M k es ∧ Below w.heap.size w w8) from by
                    cases b' with
                    | true =>
                      left
                      obtain ⟨q1, q2, q3⟩ := hst.1 rfl
                      refine ⟨rfl, HC5.out.grown hg8 (fun e => by injection e with e; exact HC5.out.xg e.symm) (fun b off e e2 => by injection e2 with e2; exact HC5.out.fg b off e e2.symm) (fun b e => by injection e with e; have := HC5.out.gl; omega) (hd8 rfl), q1, q2, ?_⟩
                      rw [if_pos rfl]
                      exact Nat.le_refl _
                    | false =>
                      right
                      refine ⟨rfl, hst.2 rfl, HC5.out.old.grown hg8 HC5.out.old.size fun b e => by injection e with e; have := HC5.out.gl; omega⟩)
                  have HRK := Lib.hid (show (if b' = true then rk (boxS (fullTo es k M)) x' + 1 else 0) < rk (boxS (fullTo es k M)) x + 1 from by
                    cases b' with
                    | true =>
                      have := (hst.1 rfl).2.2
                      rw [if_pos rfl]
                      omega
                    | false =>
                      rw [if_neg (by decide)]
                      omega)
                  have hw8 : Wx.heap.size ≤ w8.heap.size := by omega
                  clear hst hA hd8 hg8
                  go_wp2
                  go_roundg (if b' = true then rk (boxS (fullTo es k M)) x' + 1 else 0)
                  case measure => exact Nat.lt_of_lt_of_le HRK.out HMX.out
                  case rel => exact ⟨x', L, b', rfl, HO8.out, HN8.out, hw8⟩
              · obtain ⟨A7, c7, rfl, hss⟩ := ho.fin
                subst hL
                have HSS := Lib.hid (hss.mono (base' := w.heap.size) (by have := HWX.out; omega))
                have HOLD := Lib.hid hold
                clear ho hss hold
                go_wp2
                go_ret2
                exact ⟨A7, c7, rfl, HSS.out, HOLD.out⟩
          · refine AllReadyH.cons rfl (fun K hK => ?_) AllReadyH.nil
            go_simp
            refine hK.out _ _ (keepG1 hH1 ((Below.refl _ _).alloc (Nat.le_refl _) _) (Nat.le_refl _)) (fun hH2 => ?_)
            clear hK K
            try simp only [Act.put, List.setIfInBounds_toArray, List.set_cons_zero, List.set_cons_succ]
            refine wpAnyH_ready (rs := [5]) (by kernel_rfl) (by simp) ?_
            refine AllReadyH.cons rfl (fun K hK => ?_) AllReadyH.nil
            go_simp
            refine (HCF.out _ _ _ (HE.out.up_ hH2.2.2)).mono ?_
            rintro e w4 ⟨F, cf, rfl, ho4, hb4⟩
            refine hK.out _ _ (keepG1 hH2 hb4 (Nat.le_refl _)) (fun hH3 => ?_)
            clear hK K
            try simp only [Act.put, List.setIfInBounds_toArray, List.set_cons_zero, List.set_cons_succ]
            have hb4s : w3.heap.size + 2 ≤ w4.heap.size := by have := hb4.size; simpa using this
            have hdr : w3.drew.heap.size = w3.heap.size := rfl
            have hxx : Blk (w4) ((w3.heap.size + 1)) 64 #[.slice none 0 0, .slice none 0 0, .int .i64 0, .slice none 0 0, .int .i64 0] := (by have h := (Blk.new (w3.drew.alloc (Obj.cells (intCells (List.replicate M 0)).toArray 3)) 64 #[.slice none 0 0, .slice none 0 0, .int .i64 0, .slice none 0 0, .int .i64 0]).below hb4 (by simp); rw [World.size_alloc] at h; exact h)
            have hdd : Blk (w4) (w3.heap.size) 3 (intCells (List.replicate M 0)).toArray := ((Blk.new w3.drew _ _).alloc _).below hb4 (by simp; omega)
            have hfr : ∀ b off, F = some ⟨b, off, none⟩ → w3.heap.size + 2 ≤ b ∧ b < w4.heap.size := fun b off e => by
              obtain ⟨b', off', e', h1, h2, -⟩ := ho4 (by rw [fullTo_len]; omega)
              rw [e] at e'
              injection e' with e'
              injection e' with e1 _ _
              subst e1
              exact ⟨by simpa using h1, h2⟩
            have hff : OwnI (w4) w.heap.size F (fullTo es k M) := ho4.mono (by have := G3.out.old.size; simp; omega)
            have hci := cfg_made (c := c) (cd := M) (cf := cf) (A := A) hxx hdd hff (by ((try simp only [World.size_alloc, hdr]); omega)) (by ((try simp only [World.size_alloc, hdr]); omega)) (by ((try simp only [World.size_alloc, hdr]); omega)) (fun b off e => by have := hfr b off e; ((try simp only [World.size_alloc, hdr]); omega)) (fun b off e => by have := hfr b off e; ((try simp only [World.size_alloc, hdr]); omega)) hH3.2.2
            have hxl2 := hxx.lt
            have hgl2 := hdd.lt
            obtain ⟨y0, y1, y2, y3, y4, y5⟩ := five_facts hxx
            have f0 := y5 0
            have f1 := y5 1
            have f2 := y5 2
            have f3 := y5 3
            have f4 := y5 4
            refine wpAnyH_ready (rs := [7]) (by kernel_rfl) (by simp) ?_
            refine AllReadyH.cons rfl (fun K hK => ?_) AllReadyH.nil
            go_simp
            have hS4 := keep_five (W := w4) (X := (w3.heap.size + 1)) (p := ⟨w.heap.size, 0, none⟩) (r := ⟨w.heap.size, 1, none⟩) (a := .int .i64 (M : Int)) (b := .slice A es.length c) (u0 := .slice (some ⟨w3.heap.size, 0, none⟩) M M) (u1 := .slice F M cf) (u2 := .int .i64 (M : Int)) (u3 := .slice A es.length c) (u4 := .int .i64 (k : Int)) hH3 ⟨by show w.heap.size ≠ _; ((try simp only [World.size_alloc, hdr]); omega), by show w.heap.size ≠ _; ((try simp only [World.size_alloc, hdr]); omega)⟩ (by ((try simp only [World.size_alloc, hdr]); omega))
            refine hK.out _ _ (by with_reducible exact hS4) (fun hH4 => ?_)
            clear hK K
            try simp only [Act.put, List.setIfInBounds_toArray, List.set_cons_zero, List.set_cons_succ]
            refine wpAnyH_done (by kernel_rfl) ?_ _
            obtain ⟨Wx, hWx⟩ : ∃ W : World, W = ((((w4.setCell ⟨w3.heap.size + 1, 0, none⟩ (.slice (some ⟨w3.heap.size, 0, none⟩) M M)).setCell ⟨w3.heap.size + 1, 1, none⟩ (.slice F M cf)).setCell ⟨w3.heap.size + 1, 2, none⟩ (.int .i64 (M : Int))).setCell ⟨w3.heap.size + 1, 3, none⟩ (.slice A es.length c)).setCell ⟨w3.heap.size + 1, 4, none⟩ (.int .i64 (k : Int)) := ⟨_, rfl⟩
            rw [← hWx] at hci ⊢
            have HCI := Lib.hid hci
            have hX9 := hci.cfg.lt
            have hG9 := hci.d.lt
            have hFb9 : ∀ b off, F = some ⟨b, off, none⟩ → b < Wx.heap.size := fun b off e => by
              obtain ⟨b', off', e', -, h2, -⟩ := hci.f (by rw [fullTo_len]; omega)
              rw [e] at e'
              injection e' with e'
              injection e' with e1 _ _
              omega
            have HFB := Lib.hid hFb9
            have HWX := Lib.hid (show w.heap.size ≤ Wx.heap.size from hci.old.size)
            clear hci hWx hFb9 hH hH1 hH2 hH3 hH4 hb4 ho4 hff hxx hdd hfr y0 y1 y2 y3 y4 y5 f0 f1 f2 f3 f4 HCF HP0 HD HV G3 hS4 hb4s c0 c1
            try clear hxf
            go_wp2
            go_loopg [6, 8] (rk (boxS (fullTo es k M)) (List.replicate M 0) + 1) (fun gg v b wr => ∃ (x : List Int) (L : List (List Int)) (bb : Bool), b = .bool bb ∧ Out Wx.heap.size wr v L ∧ ((bb = true ∧ CfgI w wr (w3.heap.size + 1) w3.heap.size M M cf k c F A es x ∧ BoxP (fullTo es k M) x ∧ Enum (BoxP (fullTo es k M)) (fun x => burnsB M k es (dualL M k es x)) x L ∧ rk (boxS (fullTo es k M)) x + 1 ≤ gg) ∨ (bb = false ∧ L = pilesL M k es ∧ Below w.heap.size w wr)) ∧ Wx.heap.size ≤ wr.heap.size)
            case atStart => exact ⟨List.replicate M 0, [], true, rfl, Out.nil _ _, .inl ⟨rfl, HCI.out, HEZ.out.1, HEZ.out.2, Nat.le_refl _⟩, Nat.le_refl _⟩
            case round =>
              obtain ⟨x, L, bb, rfl, ho, hcase, hws⟩ := hrel
              clear HCI
              rcases hcase with ⟨rfl, hcf, hx, hen, hrk⟩ | ⟨rfl, hL, hold⟩
              · have hxl := (HBX.out x hx).1
                have HMX := Lib.hid hrk
                have HOU := Lib.hid ho
                have HEN := Lib.hid hen
                obtain ⟨x0, x1, x2, x3, x4, -⟩ := five_facts hcf.cfg
                have HC0 := Lib.hid hcf
                clear ho hen hcf hrk
                go_wp2_with fail
                refine (HCB.out _ _ _ _ x wr hx HC0.out).mono ?_
                rintro e w5 ⟨rfl, hb5⟩
                have HC5 := Lib.hid (HC0.out.below hb5)
                have HO5 := Lib.hid (HOU.out.below hb5)
                have hs5 := hb5.size
                clear x0 x1 x2 x3 x4 hb5 HC0 HOU
                obtain ⟨x0, x1, x2, x3, x4, -⟩ := five_facts HC5.out.cfg
                cases hgood : burnsB M k es (dualL M k es x) with
                | true =>
                  have hgd : decide ((burntL M es (dualL M k es x) (k : Int)).length = M) = true := hgood
                  rw [hgd]
                  have HET := Lib.hid (HEN.out.yes hx hgood)
                  have hLn := HEL.out x L HEN.out
                  clear hgd hgood HEN
                  go_wp2_with fail
                  refine (clone_div _ M M x w5 hM6 hxl HC5.out.d).mono ?_
                  rintro e w6 ⟨A6, c6, rfl, ho6, hb6⟩
                  obtain ⟨us, ow, push⟩ := HO5.out.outer
                  have HOW := Lib.hid (show (w6.alloc (.cells #[.slice A6 M c6] 28)).ownsRow Wx.heap.size 28 1 u6 L.length us from own_keep2 ow (fun q _ hq => (Below.heap_alloc _ _ q (Nat.lt_of_lt_of_le hq hb6.size)).trans (hb6.block q hq)))
                  have HLT := Lib.hid ow.lt
                  have HPU := Lib.hid (fun (w7 : World) (v' : Value) => push w6 w7 v' A6 c6 x M w6.heap.size hxl hb6 (by omega) ho6)
                  have HC6 := Lib.hid (HC5.out.below hb6)
                  have hs6 := hb6.size
                  have n3 : L.length + 1 ≤ maxLen := by unfold maxLen; omega
                  have n4 : (L.length + 1) * 24 ≤ 140737488355328 := by omega
                  have n5 : Wx.heap.size ≤ (w6.alloc (.cells #[.slice A6 M c6] 28)).heap.size := by simp; omega
                  clear ow push ho6 hb6 x0 x1 x2 x3 x4
                  go_wp2_with (at_builtin; refine wpList_append_own_at _ rfl _ _ 41 rfl Wx.heap.size 28 i1 (.slice none 0 0) 1 24 Try.underlying41 hj hy0 hy1 hy2 rfl (by decide) _ _ _ rfl HOW.out ⟨w6.heap.size, 0, none⟩ 1 1 [.slice A6 M c6] rfl rfl (one_cell _ _ rfl _ _) (fun u hu => by rw [List.mem_singleton] at hu; rw [hu]; rfl) n3 n4 n5 ?_)
                  intro v' w7 hown7 hgrow7 _ hat7
                  have hat8 : v'.ownBlock = u6.ownBlock ∨ v'.ownBlock = some (w6.heap.size + 1) := by
                    rcases hat7 with h | h
                    · exact .inl h
                    · exact .inr (h.trans (by simp))
                  have hba : Below w6.heap.size w6 (w6.alloc (.cells #[.slice A6 M c6] 28)) := (Below.refl _ _).alloc (Nat.le_refl _) _
                  have ho7 := HPU.out w7 v' hown7 (by first | rfl | trivial) hgrow7 hat8
                  have hgs7 := hgrow7.size
                  simp only [World.size_alloc] at hgs7
                  have hd7 : Blk w7 w3.heap.size 3 (intCells x).toArray := Blk.grown (HC6.out.below hba).d hgrow7 fun e => by have := (HLT.out _ e).1; omega
                  have hc7 := (HC6.out.below hba).grown hgrow7 (fun e => by have := (HLT.out _ e).1; omega) (fun b off e e2 => by have := (HLT.out _ e2).1; have := HFB.out b off e; omega) (fun b e => by have := (HLT.out _ e).1; have := HC6.out.gl; omega) hd7
                  have HC7 := Lib.hid hc7
                  have HO7 := Lib.hid ho7
                  obtain ⟨x0, x1, x2, x3, x4, -⟩ := five_facts hc7.cfg
                  clear hown7 hgrow7 hat7 hat8 hba ho7 hd7 hc7 HPU HOW HLT HC6 HC5 HO5
                  go_wp2_with fail
                  refine (HADV.out _ _ _ _ x w7 hx HC7.out).mono ?_
                  rintro e w8 ⟨b', x', rfl, hA, hd8, hg8⟩
                  have hst := HES.out x x' (L ++ [x]) b' hx HET.out hA
                  have hs8 := hg8.size
                  have HO8 := Lib.hid (HO7.out.next (w' := w8) (fun q h1 h2 => hg8.block q h2 (fun e => by injection e with e; omega)) hs8)
                  have HN8 := Lib.hid (show (b' = true ∧ CfgI w w8 (w3.heap.size + 1) w3.heap.size M M cf k c F A es x' ∧ BoxP (fullTo es k M) x' ∧ Enum (BoxP (fullTo es k M)) (fun x => burnsB M k es (dualL M k es x)) x' (L ++ [x]) ∧ rk (boxS (fullTo es k M)) x' + 1 ≤ (if b' = true then rk (boxS (fullTo es k M)) x' + 1 else 0)) ∨ (b' = false ∧ (L ++ [x]) = pilesL M k es ∧ Below w.heap.size w w8) from by
                    cases b' with
                    | true =>
                      left
                      obtain ⟨q1, q2, q3⟩ := hst.1 rfl
                      refine ⟨rfl, HC7.out.grown hg8 (fun e => by injection e with e; exact HC7.out.xg e.symm) (fun b off e e2 => by injection e2 with e2; exact HC7.out.fg b off e e2.symm) (fun b e => by injection e with e; have := HC7.out.gl; omega) (hd8 rfl), q1, q2, ?_⟩
                      rw [if_pos rfl]
                      exact Nat.le_refl _
                    | false =>
                      right
                      refine ⟨rfl, hst.2 rfl, HC7.out.old.grown hg8 HC7.out.old.size fun b e => by injection e with e; have := HC7.out.gl; omega⟩)
                  have HRK := Lib.hid (show (if b' = true then rk (boxS (fullTo es k M)) x' + 1 else 0) < rk (boxS (fullTo es k M)) x + 1 from by
                    cases b' with
                    | true =>
                      have := (hst.1 rfl).2.2
                      rw [if_pos rfl]
                      omega
                    | false =>
                      rw [if_neg (by decide)]
                      omega)
                  have hw8 : Wx.heap.size ≤ w8.heap.size := by omega
                  clear hst hA hd8 hg8
                  go_wp2
                  go_roundg (if b' = true then rk (boxS (fullTo es k M)) x' + 1 else 0)
                  case measure => exact Nat.lt_of_lt_of_le HRK.out HMX.out
                  case rel => exact ⟨x', (L ++ [x]), b', rfl, HO8.out, HN8.out, hw8⟩
                | false =>
                  have hgd : decide ((burntL M es (dualL M k es x) (k : Int)).length = M) = false := hgood
                  rw [hgd]
                  have HET := Lib.hid (HEN.out.no hgood)
                  clear hgd hgood HEN
                  go_wp2_with fail
                  refine (HADV.out _ _ _ _ x w5 hx HC5.out).mono ?_
                  rintro e w8 ⟨b', x', rfl, hA, hd8, hg8⟩
                  have hst := HES.out x x' L b' hx HET.out hA
                  have hs8 := hg8.size
                  have HO8 := Lib.hid (HO5.out.next (w' := w8) (fun q h1 h2 => hg8.block q h2 (fun e => by injection e with e; omega)) hs8)
                  have HN8 := Lib.hid (show (b' = true ∧ CfgI w w8 (w3.heap.size + 1) w3.heap.size M M cf k c F A es x' ∧ BoxP (fullTo es k M) x' ∧ Enum (BoxP (fullTo es k M)) (fun x => burnsB M k es (dualL M k es x)) x' L ∧ rk (boxS (fullTo es k M)) x' + 1 ≤ (if b' = true then rk (boxS (fullTo es k M)) x' + 1 else 0)) ∨ (b' = false ∧ L = pilesL M k es ∧ Below w.heap.size w w8) from by
                    cases b' with
                    | true =>
                      left
                      obtain ⟨q1, q2, q3⟩ := hst.1 rfl
                      refine ⟨rfl, HC5.out.grown hg8 (fun e => by injection e with e; exact HC5.out.xg e.symm) (fun b off e e2 => by injection e2 with e2; exact HC5.out.fg b off e e2.symm) (fun b e => by injection e with e; have := HC5.out.gl; omega) (hd8 rfl), q1, q2, ?_⟩
                      rw [if_pos rfl]
                      exact Nat.le_refl _
                    | false =>
                      right
                      refine ⟨rfl, hst.2 rfl, HC5.out.old.grown hg8 HC5.out.old.size fun b e => by injection e with e; have := HC5.out.gl; omega⟩)
                  have HRK := Lib.hid (show (if b' = true then rk (boxS (fullTo es k M)) x' + 1 else 0) < rk (boxS (fullTo es k M)) x + 1 from by
                    cases b' with
                    | true =>
                      have := (hst.1 rfl).2.2
                      rw [if_pos rfl]
                      omega
                    | false =>
                      rw [if_neg (by decide)]
                      omega)
                  have hw8 : Wx.heap.size ≤ w8.heap.size := by omega
                  clear hst hA hd8 hg8
                  go_wp2
                  go_roundg (if b' = true then rk (boxS (fullTo es k M)) x' + 1 else 0)
                  case measure => exact Nat.lt_of_lt_of_le HRK.out HMX.out
                  case rel => exact ⟨x', L, b', rfl, HO8.out, HN8.out, hw8⟩
              · obtain ⟨A7, c7, rfl, hss⟩ := ho.fin
                subst hL
                have HSS := Lib.hid (hss.mono (base' := w.heap.size) (by have := HWX.out; omega))
                have HOLD := Lib.hid hold
                clear ho hss hold
                go_wp2
                go_ret2
                exact ⟨A7, c7, rfl, HSS.out, HOLD.out⟩
        · refine AllReadyH.cons rfl (fun K hK => ?_) AllReadyH.nil
          go_simp
          refine hK.out _ _ (keepG1 hH ((Below.refl _ _).alloc (Nat.le_refl _) _) (Nat.le_refl _)) (fun hH1 => ?_)
          clear hK K
          try simp only [Act.put, List.setIfInBounds_toArray, List.set_cons_zero, List.set_cons_succ]
          refine wpAnyH_ready (rs := [3]) (by kernel_rfl) (by simp) ?_
          refine AllReadyH.cons rfl (fun K hK => ?_) AllReadyH.nil
          go_simp
          refine hK.out _ _ (keepG1 hH1 ((Below.refl _ _).alloc (Nat.le_refl _) _) (Nat.le_refl _)) (fun hH2 => ?_)
          clear hK K
          try simp only [Act.put, List.setIfInBounds_toArray, List.set_cons_zero, List.set_cons_succ]
          refine wpAnyH_ready (rs := [5]) (by kernel_rfl) (by simp) ?_
          refine AllReadyH.cons rfl (fun K hK => ?_) AllReadyH.nil
          go_simp
          refine (HCF.out _ _ _ (HE.out.up_ hH2.2.2)).mono ?_
          rintro e w4 ⟨F, cf, rfl, ho4, hb4⟩
          refine hK.out _ _ (keepG1 hH2 hb4 (Nat.le_refl _)) (fun hH3 => ?_)
          clear hK K
          try simp only [Act.put, List.setIfInBounds_toArray, List.set_cons_zero, List.set_cons_succ]
          have hb4s : w3.heap.size + 2 ≤ w4.heap.size := by have := hb4.size; simpa using this
          have hdr : w3.drew.heap.size = w3.heap.size := rfl
          have hxx : Blk (w4) (w3.heap.size) 64 #[.slice none 0 0, .slice none 0 0, .int .i64 0, .slice none 0 0, .int .i64 0] := ((Blk.new w3.drew _ _).alloc _).below hb4 (by simp; omega)
          have hdd : Blk (w4) ((w3.heap.size + 1)) 3 (intCells (List.replicate M 0)).toArray := (by have h := (Blk.new (w3.drew.alloc (Obj.cells #[.slice none 0 0, .slice none 0 0, .int .i64 0, .slice none 0 0, .int .i64 0] 64)) 3 (intCells (List.replicate M 0)).toArray).below hb4 (by simp); rw [World.size_alloc] at h; exact h)
          have hfr : ∀ b off, F = some ⟨b, off, none⟩ → w3.heap.size + 2 ≤ b ∧ b < w4.heap.size := fun b off e => by
            obtain ⟨b', off', e', h1, h2, -⟩ := ho4 (by rw [fullTo_len]; omega)
            rw [e] at e'
            injection e' with e'
            injection e' with e1 _ _
            subst e1
            exact ⟨by simpa using h1, h2⟩
          have hff : OwnI (w4) w.heap.size F (fullTo es k M) := ho4.mono (by have := G3.out.old.size; simp; omega)
          have hci := cfg_made (c := c) (cd := M) (cf := cf) (A := A) hxx hdd hff (by ((try simp only [World.size_alloc, hdr]); omega)) (by ((try simp only [World.size_alloc, hdr]); omega)) (by ((try simp only [World.size_alloc, hdr]); omega)) (fun b off e => by have := hfr b off e; ((try simp only [World.size_alloc, hdr]); omega)) (fun b off e => by have := hfr b off e; ((try simp only [World.size_alloc, hdr]); omega)) hH3.2.2
          have hxl2 := hxx.lt
          have hgl2 := hdd.lt
          obtain ⟨y0, y1, y2, y3, y4, y5⟩ := five_facts hxx
          have f0 := y5 0
          have f1 := y5 1
          have f2 := y5 2
          have f3 := y5 3
          have f4 := y5 4
          refine wpAnyH_ready (rs := [7]) (by kernel_rfl) (by simp) ?_
          refine AllReadyH.cons rfl (fun K hK => ?_) AllReadyH.nil
          go_simp
          have hS4 := keep_five (W := w4) (X := w3.heap.size) (p := ⟨w.heap.size, 0, none⟩) (r := ⟨w.heap.size, 1, none⟩) (a := .int .i64 (M : Int)) (b := .slice A es.length c) (u0 := .slice (some ⟨(w3.heap.size + 1), 0, none⟩) M M) (u1 := .slice F M cf) (u2 := .int .i64 (M : Int)) (u3 := .slice A es.length c) (u4 := .int .i64 (k : Int)) hH3 ⟨by show w.heap.size ≠ _; ((try simp only [World.size_alloc, hdr]); omega), by show w.heap.size ≠ _; ((try simp only [World.size_alloc, hdr]); omega)⟩ (by ((try simp only [World.size_alloc, hdr]); omega))
          refine hK.out _ _ (by with_reducible exact hS4) (fun hH4 => ?_)
          clear hK K
          try simp only [Act.put, List.setIfInBounds_toArray, List.set_cons_zero, List.set_cons_succ]
          refine wpAnyH_done (by kernel_rfl) ?_ _
          obtain ⟨Wx, hWx⟩ : ∃ W : World, W = ((((w4.setCell ⟨w3.heap.size, 0, none⟩ (.slice (some ⟨w3.heap.size + 1, 0, none⟩) M M)).setCell ⟨w3.heap.size, 1, none⟩ (.slice F M cf)).setCell ⟨w3.heap.size, 2, none⟩ (.int .i64 (M : Int))).setCell ⟨w3.heap.size, 3, none⟩ (.slice A es.length c)).setCell ⟨w3.heap.size, 4, none⟩ (.int .i64 (k : Int)) := ⟨_, rfl⟩
          rw [← hWx] at hci ⊢
          have HCI := Lib.hid hci
          have hX9 := hci.cfg.lt
          have hG9 := hci.d.lt
          have hFb9 : ∀ b off, F = some ⟨b, off, none⟩ → b < Wx.heap.size := fun b off e => by
            obtain ⟨b', off', e', -, h2, -⟩ := hci.f (by rw [fullTo_len]; omega)
            rw [e] at e'
            injection e' with e'
            injection e' with e1 _ _
            omega
          have HFB := Lib.hid hFb9
          have HWX := Lib.hid (show w.heap.size ≤ Wx.heap.size from hci.old.size)
          clear hci hWx hFb9 hH hH1 hH2 hH3 hH4 hb4 ho4 hff hxx hdd hfr y0 y1 y2 y3 y4 y5 f0 f1 f2 f3 f4 HCF HP0 HD HV G3 hS4 hb4s c0 c1
          try clear hxf
          go_wp2
          go_loopg [6, 8] (rk (boxS (fullTo es k M)) (List.replicate M 0) + 1) (fun gg v b wr => ∃ (x : List Int) (L : List (List Int)) (bb : Bool), b = .bool bb ∧ Out Wx.heap.size wr v L ∧ ((bb = true ∧ CfgI w wr w3.heap.size (w3.heap.size + 1) M M cf k c F A es x ∧ BoxP (fullTo es k M) x ∧ Enum (BoxP (fullTo es k M)) (fun x => burnsB M k es (dualL M k es x)) x L ∧ rk (boxS (fullTo es k M)) x + 1 ≤ gg) ∨ (bb = false ∧ L = pilesL M k es ∧ Below w.heap.size w wr)) ∧ Wx.heap.size ≤ wr.heap.size)
          case atStart => exact ⟨List.replicate M 0, [], true, rfl, Out.nil _ _, .inl ⟨rfl, HCI.out, HEZ.out.1, HEZ.out.2, Nat.le_refl _⟩, Nat.le_refl _⟩
          case round =>
            obtain ⟨x, L, bb, rfl, ho, hcase, hws⟩ := hrel
            clear HCI
            rcases hcase with ⟨rfl, hcf, hx, hen, hrk⟩ | ⟨rfl, hL, hold⟩
            · have hxl := (HBX.out x hx).1
              have HMX := Lib.hid hrk
              have HOU := Lib.hid ho
              have HEN := Lib.hid hen
              obtain ⟨x0, x1, x2, x3, x4, -⟩ := five_facts hcf.cfg
              have HC0 := Lib.hid hcf
              clear ho hen hcf hrk
              go_wp2_with fail
              refine (HCB.out _ _ _ _ x wr hx HC0.out).mono ?_
              rintro e w5 ⟨rfl, hb5⟩
              have HC5 := Lib.hid (HC0.out.below hb5)
              have HO5 := Lib.hid (HOU.out.below hb5)
              have hs5 := hb5.size
              clear x0 x1 x2 x3 x4 hb5 HC0 HOU
              obtain ⟨x0, x1, x2, x3, x4, -⟩ := five_facts HC5.out.cfg
              cases hgood : burnsB M k es (dualL M k es x) with
              | true =>
                have hgd : decide ((burntL M es (dualL M k es x) (k : Int)).length = M) = true := hgood
                rw [hgd]
                have HET := Lib.hid (HEN.out.yes hx hgood)
                have hLn := HEL.out x L HEN.out
                clear hgd hgood HEN
                go_wp2_with fail
                refine (clone_div _ M M x w5 hM6 hxl HC5.out.d).mono ?_
                rintro e w6 ⟨A6, c6, rfl, ho6, hb6⟩
                obtain ⟨us, ow, push⟩ := HO5.out.outer
                have HOW := Lib.hid (show (w6.alloc (.cells #[.slice A6 M c6] 28)).ownsRow Wx.heap.size 28 1 u6 L.length us from own_keep2 ow (fun q _ hq => (Below.heap_alloc _ _ q (Nat.lt_of_lt_of_le hq hb6.size)).trans (hb6.block q hq)))
                have HLT := Lib.hid ow.lt
                have HPU := Lib.hid (fun (w7 : World) (v' : Value) => push w6 w7 v' A6 c6 x M w6.heap.size hxl hb6 (by omega) ho6)
                have HC6 := Lib.hid (HC5.out.below hb6)
                have hs6 := hb6.size
                have n3 : L.length + 1 ≤ maxLen := by unfold maxLen; omega
                have n4 : (L.length + 1) * 24 ≤ 140737488355328 := by omega
                have n5 : Wx.heap.size ≤ (w6.alloc (.cells #[.slice A6 M c6] 28)).heap.size := by simp; omega
                clear ow push ho6 hb6 x0 x1 x2 x3 x4
                go_wp2_with (at_builtin; refine wpList_append_own_at _ rfl _ _ 41 rfl Wx.heap.size 28 i1 (.slice none 0 0) 1 24 Try.underlying41 hj hy0 hy1 hy2 rfl (by decide) _ _ _ rfl HOW.out ⟨w6.heap.size, 0, none⟩ 1 1 [.slice A6 M c6] rfl rfl (one_cell _ _ rfl _ _) (fun u hu => by rw [List.mem_singleton] at hu; rw [hu]; rfl) n3 n4 n5 ?_)
                intro v' w7 hown7 hgrow7 _ hat7
                have hat8 : v'.ownBlock = u6.ownBlock ∨ v'.ownBlock = some (w6.heap.size + 1) := by
                  rcases hat7 with h | h
                  · exact .inl h
                  · exact .inr (h.trans (by simp))
                have hba : Below w6.heap.size w6 (w6.alloc (.cells #[.slice A6 M c6] 28)) := (Below.refl _ _).alloc (Nat.le_refl _) _
                have ho7 := HPU.out w7 v' hown7 (by first | rfl | trivial) hgrow7 hat8
                have hgs7 := hgrow7.size
                simp only [World.size_alloc] at hgs7
                have hd7 : Blk w7 (w3.heap.size + 1) 3 (intCells x).toArray := Blk.grown (HC6.out.below hba).d hgrow7 fun e => by have := (HLT.out _ e).1; omega
                have hc7 := (HC6.out.below hba).grown hgrow7 (fun e => by have := (HLT.out _ e).1; omega) (fun b off e e2 => by have := (HLT.out _ e2).1; have := HFB.out b off e; omega) (fun b e => by have := (HLT.out _ e).1; have := HC6.out.gl; omega) hd7
                have HC7 := Lib.hid hc7
                have HO7 := Lib.hid ho7
                obtain ⟨x0, x1, x2, x3, x4, -⟩ := five_facts hc7.cfg
                clear hown7 hgrow7 hat7 hat8 hba ho7 hd7 hc7 HPU HOW HLT HC6 HC5 HO5
                go_wp2_with fail
                refine (HADV.out _ _ _ _ x w7 hx HC7.out).mono ?_
                rintro e w8 ⟨b', x', rfl, hA, hd8, hg8⟩
                have hst := HES.out x x' (L ++ [x]) b' hx HET.out hA
                have hs8 := hg8.size
                have HO8 := Lib.hid (HO7.out.next (w' := w8) (fun q h1 h2 => hg8.block q h2 (fun e => by injection e with e; omega)) hs8)
                have HN8 := Lib.hid (show (b' = true ∧ CfgI w w8 w3.heap.size (w3.heap.size + 1) M M cf k c F A es x' ∧ BoxP (fullTo es k M) x' ∧ Enum (BoxP (fullTo es k M)) (fun x => burnsB M k es (dualL M k es x)) x' (L ++ [x]) ∧ rk (boxS (fullTo es k M)) x' + 1 ≤ (if b' = true then rk (boxS (fullTo es k M)) x' + 1 else 0)) ∨ (b' = false ∧ (L ++ [x]) = pilesL M k es ∧ Below w.heap.size w w8) from by
                  cases b' with
                  | true =>
                    left
                    obtain ⟨q1, q2, q3⟩ := hst.1 rfl
                    refine ⟨rfl, HC7.out.grown hg8 (fun e => by injection e with e; exact HC7.out.xg e.symm) (fun b off e e2 => by injection e2 with e2; exact HC7.out.fg b off e e2.symm) (fun b e => by injection e with e; have := HC7.out.gl; omega) (hd8 rfl), q1, q2, ?_⟩
                    rw [if_pos rfl]
                    exact Nat.le_refl _
                  | false =>
                    right
                    refine ⟨rfl, hst.2 rfl, HC7.out.old.grown hg8 HC7.out.old.size fun b e => by injection e with e; have := HC7.out.gl; omega⟩)
                have HRK := Lib.hid (show (if b' = true then rk (boxS (fullTo es k M)) x' + 1 else 0) < rk (boxS (fullTo es k M)) x + 1 from by
                  cases b' with
                  | true =>
                    have := (hst.1 rfl).2.2
                    rw [if_pos rfl]
                    omega
                  | false =>
                    rw [if_neg (by decide)]
                    omega)
                have hw8 : Wx.heap.size ≤ w8.heap.size := by omega
                clear hst hA hd8 hg8
                go_wp2
                go_roundg (if b' = true then rk (boxS (fullTo es k M)) x' + 1 else 0)
                case measure => exact Nat.lt_of_lt_of_le HRK.out HMX.out
                case rel => exact ⟨x', (L ++ [x]), b', rfl, HO8.out, HN8.out, hw8⟩
              | false =>
                have hgd : decide ((burntL M es (dualL M k es x) (k : Int)).length = M) = false := hgood
                rw [hgd]
                have HET := Lib.hid (HEN.out.no hgood)
                clear hgd hgood HEN
                go_wp2_with fail
                refine (HADV.out _ _ _ _ x w5 hx HC5.out).mono ?_
                rintro e w8 ⟨b', x', rfl, hA, hd8, hg8⟩
                have hst := HES.out x x' L b' hx HET.out hA
                have hs8 := hg8.size
                have HO8 := Lib.hid (HO5.out.next (w' := w8) (fun q h1 h2 => hg8.block q h2 (fun e => by injection e with e; omega)) hs8)
                have HN8 := Lib.hid (show (b' = true ∧ CfgI w w8 w3.heap.size (w3.heap.size + 1) M M cf k c F A es x' ∧ BoxP (fullTo es k M) x' ∧ Enum (BoxP (fullTo es k M)) (fun x => burnsB M k es (dualL M k es x)) x' L ∧ rk (boxS (fullTo es k M)) x' + 1 ≤ (if b' = true then rk (boxS (fullTo es k M)) x' + 1 else 0)) ∨ (b' = false ∧ L = pilesL M k es ∧ Below w.heap.size w w8) from by
                  cases b' with
                  | true =>
                    left
                    obtain ⟨q1, q2, q3⟩ := hst.1 rfl
                    refine ⟨rfl, HC5.out.grown hg8 (fun e => by injection e with e; exact HC5.out.xg e.symm) (fun b off e e2 => by injection e2 with e2; exact HC5.out.fg b off e e2.symm) (fun b e => by injection e with e; have := HC5.out.gl; omega) (hd8 rfl), q1, q2, ?_⟩
                    rw [if_pos rfl]
                    exact Nat.le_refl _
                  | false =>
                    right
                    refine ⟨rfl, hst.2 rfl, HC5.out.old.grown hg8 HC5.out.old.size fun b e => by injection e with e; have := HC5.out.gl; omega⟩)
                have HRK := Lib.hid (show (if b' = true then rk (boxS (fullTo es k M)) x' + 1 else 0) < rk (boxS (fullTo es k M)) x + 1 from by
                  cases b' with
                  | true =>
                    have := (hst.1 rfl).2.2
                    rw [if_pos rfl]
                    omega
                  | false =>
                    rw [if_neg (by decide)]
                    omega)
                have hw8 : Wx.heap.size ≤ w8.heap.size := by omega
                clear hst hA hd8 hg8
                go_wp2
                go_roundg (if b' = true then rk (boxS (fullTo es k M)) x' + 1 else 0)
                case measure => exact Nat.lt_of_lt_of_le HRK.out HMX.out
                case rel => exact ⟨x', L, b', rfl, HO8.out, HN8.out, hw8⟩
            · obtain ⟨A7, c7, rfl, hss⟩ := ho.fin
              subst hL
              have HSS := Lib.hid (hss.mono (base' := w.heap.size) (by have := HWX.out; omega))
              have HOLD := Lib.hid hold
              clear ho hss hold
              go_wp2
              go_ret2
              exact ⟨A7, c7, rfl, HSS.out, HOLD.out⟩
      · have h0 : pilesOk N es q = false := by rw [pilesOk, decide_eq_false (by rw [← hT]; exact h3), Bool.and_false, Bool.and_false]
        rw [pilesC_f h0, h0]
        rw [← hT] at HO
        have t2 : (400 : Int) < TT := by omega
        have t3 : decide ((400 : Int) < TT) = true := decide_eq_true t2
        clear h1 h2 h0 hE hT h3
        go_enter Try.func25, Try.ntmps25
        go_wp2_with fail
        refine (HD _ (HE.out.up_ G0.old)).out.mono ?_
        rintro e w1 ⟨rfl, hb1⟩
        have G1 := Lib.hid (G0.next hb1)
        have c0 := G1.out.c0
        have c1 := G1.out.c1
        clear G0 hb1
        go_wp2_with fail
        refine (HV _).out.mono ?_
        rintro e w2 ⟨rfl, hb2⟩
        have G2 := Lib.hid (G1.out.next hb2)
        clear hb2 c0 c1 G1
        have c0 := G2.out.c0
        have c1 := G2.out.c1
        go_wp2_with fail
        refine (HO _ (HE.out.up_ G2.out.old)).out.mono ?_
        rintro e w3 ⟨rfl, hb3⟩
        have G3 := Lib.hid (G2.out.next hb3)
        clear hb3
        go_wp2
        go_ret2
        exact ⟨none, 0, rfl, fun hn => absurd hn (by simp), G3.out.old⟩
end Go.Proofs.Ytdpojcgeblbfeaa
