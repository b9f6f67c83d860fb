/- EffectiveIn: the specification's side. -/
import Derived.Test.YtklaanohbpcifaaBL
import Derived.Test.YtklaanohbpcifaaBK
import Derived.Test.YtklaanohbpcifaaBJ
import Derived.Maps.AppendAt
namespace Go.Proofs.Ytklaanohbpcifaa
open Go.RowKit

/-- rows, wherever they lie, and whether there is an answer -/
def GivesRowsOk (w : World) (rs : List (List Int)) (b : Bool) (e : Ending) (w' : World) : Prop :=
  ∃ (A : Option Addr) (c : Nat), e = .returned (.tuple #[.slice A rs.length c, .bool b]) ∧ IntSS w' w'.heap.size A rs ∧ Below w.heap.size w w'
/-- .. new memory -/
def GivesSSOk (w : World) (rs : List (List Int)) (b : Bool) (e : Ending) (w' : World) : Prop :=
  ∃ (A : Option Addr) (c : Nat), e = .returned (.tuple #[.slice A rs.length c, .bool b]) ∧ OwnSS w' w.heap.size w'.heap.size A rs ∧ Below w.heap.size w w'
/-- .. own memory, and where its rows lie -/
def GivesSSV (w : World) (rs : List (List Int)) (b : Bool) (e : Ending) (w' : World) : Prop :=
  ∃ v : Value, e = .returned (.tuple #[v, .bool b]) ∧ SSOwn w' w.heap.size v rs ∧ Below w.heap.size w w'
theorem SSOwn.nil0 (w : World) (base : Nat) : SSOwn w base (.slice none 0 0) [] := ⟨[], ⟨rfl, .inl ⟨rfl, rfl⟩⟩, fun i r h => by simp at h⟩
theorem IntSS.nil (w : World) (B : Nat) (A : Option Addr) : IntSS w B A [] := fun h => absurd h (by simp)
theorem keepD1 {w0 W W' : World} {X : Nat} {a : Value} (h : W.cell? ⟨X, 0, none⟩ = some a ∧ Below w0.heap.size w0 W) (hb : Below W.heap.size W W') : W'.cell? ⟨X, 0, none⟩ = some a ∧ Below w0.heap.size w0 W' :=
  ⟨(hb.cell (World.block_lt_of_cell? W _ h.1)).trans h.1, h.2.trans (hb.mono h.2.size)⟩
set_option maxRecDepth 100000 in
set_option maxHeartbeats 4000000 in
theorem specEinO (N : Int) (A D : Option Addr) (c cd : Nat) (es : List (Int × Int)) (d : List Int) (w : World) (hn : es.length ≤ 1048576) (hd : d.length ≤ 1048576) (hE : EdgeS w w.heap.size A es) (hS : IntS w w.heap.size D d) :
    Calls Try.prog 12 #[.agg #[.int .i64 N, .slice A es.length c], .slice D d.length cd] w (GivesSSV w (einB N es d) (einOk N es d)) := by
  obtain ⟨i1, hj, hy0, hy1, hy2⟩ := info_parts rowsInfo
  have HE := Lib.hid hE
  have HS := Lib.hid hS
  clear hE hS
  have G0 := GB.start w N A c es
  have HD := fun w h1 h2 => Lib.hid (specDiv N A D c cd es d w hn hd h1 h2)
  have HX := fun w h1 => Lib.hid (specDeg D cd d w hd h1)
  have HW := fun w h1 h2 => Lib.hid (specWin N A D c cd es d w hn hd h1 h2)
  cases h1 : divB 60 N es d with
  | false =>
    rw [h1] at HD
    rw [einB_f (ein_no1 h1), ein_no1 h1]
    clear h1 HX HW
    go_enter Try.func12, Try.ntmps12
    go_wp2_with fail
    refine (HD _ (HE.out.up_ G0.old) (HS.out.up_ G0.old)).out.mono ?_
    rintro e w1 ⟨rfl, hb1⟩
    have G1 := Lib.hid (G0.next hb1)
    clear G0 hb1
    go_wp2
    go_ret2
    exact ⟨_, rfl, SSOwn.nil0 _ _, G1.out.old⟩
  | true =>
    rw [h1] at HD
    by_cases h2 : degB d d.length ≤ 7
    · have h3 := ein_yes h1 h2
      cases h4 : winB N es d with
      | false =>
        rw [h4] at HW
        rw [einB_n h4, h3]
        obtain ⟨k, hk⟩ : ∃ k, k = degB d d.length := ⟨_, rfl⟩
        rw [← hk] at HX h2
        clear h1 h3 h4 hk
        go_enter Try.func12, Try.ntmps12
        go_wp2_with fail
        refine (HD _ (HE.out.up_ G0.old) (HS.out.up_ G0.old)).out.mono ?_
        rintro e w1 ⟨rfl, hb1⟩
        have G1 := Lib.hid (G0.next hb1)
        clear G0 hb1
        go_wp2_with fail
        refine (HX _ (HS.out.up_ G1.out.old)).out.mono ?_
        rintro e w2 ⟨rfl, hb2⟩
        obtain ⟨W2, hW2⟩ : ∃ X : World, X = w2.alloc (Obj.cells #[] 25) := ⟨_, rfl⟩
        have hb2' : Below w2.heap.size w2 W2 := by rw [hW2]; exact (Below.refl _ _).alloc (Nat.le_refl _) _
        have G2 := Lib.hid ((G1.out.next hb2).next hb2')
        have HOW := Lib.hid (show SSOwn W2 w.heap.size (.slice (some ⟨w2.heap.size, 0, none⟩) 0 0) [] by rw [hW2]; exact ⟨[], ownsRow_mono (own_emptyD w2 _ (Nat.le_refl _) _) (G1.out.next hb2).old.size, fun i r h => by simp at h⟩)
        have c0 := G2.out.c0
        have c1 := G2.out.c1
        have HW2 := Lib.hid hW2
        rw [hW2] at c0 c1
        clear hb2 hb2' hW2
        go_wp2_with fail
        rw [← HW2.out]
        refine (HW _ (HE.out.up_ G2.out.old) (HS.out.up_ G2.out.old)).out.mono ?_
        rintro e w3 ⟨rfl, hb3⟩
        have G3 := Lib.hid (G2.out.next hb3)
        have HOV := Lib.hid (HOW.out.kept hb3)
        clear hb3 c0 c1 HOW
        go_wp2
        go_ret2
        exact ⟨_, rfl, HOV.out, G3.out.old⟩
      | true =>
        have hM := div_limsB h1
        obtain ⟨M, rfl, hM0, hM6, hn12, hdl, hes, hdb, hcn⟩ := hM
        have hgr := (divB_all h1).1
        have hk6 := deg_lim hdb d.length (by omega)
        have hl1 := Lib.hid (red_len h1).1
        have HP := fun w h3 h4 => Lib.hid (specRd2 A D c cd M es d w h1 h3 h4)
        rw [h4] at HW
        rw [einB_t h3 h4, h3, Int.toNat_natCast]
        obtain ⟨k, hk⟩ : ∃ k, k = degB d d.length := ⟨_, rfl⟩
        rw [← hk] at HX h2 hk6 ⊢
        have HL := fun (w : World) => Lib.hid (specEffl M k w hM6 (by omega) h2)
        have HDV := Lib.hid (fun (r : List Int) (h : r ∈ effB M k) => (show divB 60 (M : Int) es r = true ∧ r.length = M from ⟨eff_div hgr h2 h, (effB_mem M k r h).1⟩))
        have hLs := effB_small (n := M) (k := k) hM6 h2
        obtain ⟨L, hLe⟩ : ∃ L, L = effB M k := ⟨_, rfl⟩
        rw [← hLe] at HL HDV hLs ⊢
        have HRD := fun (r : List Int) (h : r ∈ L) (Ar : Option Addr) (cr : Nat) (w : World) (h3 : EdgeS w w.heap.size A es) (h4 : IntS w w.heap.size Ar r) => Lib.hid (specRd2 A Ar c cr M es r w (HDV.out r h).1 h3 h4)
        have HRL := Lib.hid (fun (r : List Int) (h : r ∈ L) => (red_len (HDV.out r h).1).1)
        have HST := Lib.hid (fun (t : Nat) (r : List Int) (h : L[t]? = some r) => einL_step (N := (M : Int)) (es := es) (d := d) h)
        have hFL := fun t => einL_len (N := (M : Int)) (es := es) (d := d) (L := L) t
        have HFA := Lib.hid (show einL (M : Int) es d (L.take L.length) = einL (M : Int) es d L by rw [List.take_of_length_le (Nat.le_refl _)])
        have HF0 := Lib.hid (show einL (M : Int) es d (L.take 0) = [] by simp [einL])
        obtain ⟨xs, hxs⟩ : ∃ x, x = redR (M : Int) es d 0 := ⟨_, rfl⟩
        rw [← hxs] at HP hl1 HST
        obtain ⟨F, hF⟩ : ∃ F : Nat → List (List Int), F = fun t => einL (M : Int) es d (L.take t) := ⟨_, rfl⟩
        have HST2 := Lib.hid (show ∀ (t : Nat) (r : List Int), L[t]? = some r → F (t + 1) = if xs = redR (M : Int) es r 0 then F t ++ [r] else F t by rw [hF]; exact HST.out)
        have hFL2 : ∀ t, (F t).length ≤ L.length := by rw [hF]; exact hFL
        have HFA2 := Lib.hid (show einL (M : Int) es d L = F L.length by rw [hF]; exact HFA.out.symm)
        have HF02 := Lib.hid (show F 0 = [] by rw [hF]; exact HF0.out)
        rw [HFA2.out]
        have HM6 := Lib.hid (show M ≤ 1048576 by omega)
        have HM0 := Lib.hid hM0
        clear h1 h3 h4 hk hLe hxs hF HST hFL HFA HF0 HFA2 hn12 hdl hes hdb hcn hgr hM6 hM0
        go_enter Try.func12, Try.ntmps12
        go_wp2_with fail
        refine (HD _ (HE.out.up_ G0.old) (HS.out.up_ G0.old)).out.mono ?_
        rintro e w1 ⟨rfl, hb1⟩
        have G1 := Lib.hid (G0.next hb1)
        clear G0 hb1
        go_wp2_with fail
        refine (HX _ (HS.out.up_ G1.out.old)).out.mono ?_
        rintro e w2 ⟨rfl, hb2⟩
        obtain ⟨W2, hW2⟩ : ∃ X : World, X = w2.alloc (Obj.cells #[] 25) := ⟨_, rfl⟩
        have hb2' : Below w2.heap.size w2 W2 := by rw [hW2]; exact (Below.refl _ _).alloc (Nat.le_refl _) _
        have gg2 := G1.out.next hb2
        have G2 := Lib.hid (gg2.next hb2')
        have hlb := gg2.lt
        have hlo : w2.heap.size < W2.heap.size := by rw [hW2]; simp
        have HOW := Lib.hid (show W2.ownsRow w2.heap.size 25 1 (.slice (some ⟨w2.heap.size, 0, none⟩) 0 0) 0 [] by rw [hW2]; exact own_emptyD w2 _ (Nat.le_refl _) _)
        have c0 := G2.out.c0
        have c1 := G2.out.c1
        have HW2 := Lib.hid hW2
        rw [hW2] at c0 c1
        clear hb2 hb2' hW2 gg2
        go_wp2_with fail
        rw [← HW2.out]
        refine (HW _ (HE.out.up_ G2.out.old) (HS.out.up_ G2.out.old)).out.mono ?_
        rintro e w3 ⟨rfl, hb3⟩
        have G3 := Lib.hid (G2.out.next hb3)
        have HB3 := Lib.hid hb3
        clear hb3 c0 c1
        have c0 := G3.out.c0
        have c1 := G3.out.c1
        go_wp2_with fail
        refine (HP _ (HE.out.up_ G3.out.old) (HS.out.up_ G3.out.old)).out.mono ?_
        rintro e w4 ⟨A1, A2, c1', c2', rfl, ho, -, hb4⟩
        have G4 := Lib.hid (G3.out.next hb4)
        have HB4 := Lib.hid (HB3.out.trans (hb4.mono HB3.out.size))
        have HXI := Lib.hid (ho.ini.wide HB3.out.size (Nat.le_refl _))
        clear hb4 c0 c1 ho
        have c0 := G4.out.c0
        have c1 := G4.out.c1
        have HP0 := Lib.hid (show w4.drew.cell? ⟨w.heap.size, 0, none⟩ = some (.int .i64 (M : Int)) ∧ Below w4.heap.size w4 w4.drew from ⟨c0, (Below.refl _ _).drew⟩)
        have DC := fun (W : World) (h : Below w4.heap.size w4 W) => HX W (HS.out.up_ (G4.out.next h).old)
        go_wp2_with fail
        go_region_held3 (fun w' => w'.cell? ⟨w.heap.size, 0, none⟩ = some (.int .i64 (M : Int)) ∧ Below w4.heap.size w4 w')
          (first
            | with_reducible exact HP0.out
            | with_reducible exact keepD1 (by assumption) hb5
            | with_reducible exact keepD1 (by assumption) hb6)
          (first
            | (go_at_call 17; refine (DC _ (And.right (by assumption))).out.mono ?_; rintro e w5 ⟨rfl, hb5⟩)
            | (go_at_call 20; refine (HL _).out.mono ?_; rintro e w6 ⟨v6, rfl, hr6, hb6⟩; obtain ⟨Ar, cr, rfl, hri⟩ := hr6.rows))
        have hb46 : Below w4.heap.size w4 w6 := And.right (by assumption)
        have s5 := hb5.size
        have s6 := hb6.size
        have s4 := HB4.out.size
        have hW4 : W2.heap.size ≤ w5.heap.size := by
          have : w4.drew.heap.size = w4.heap.size := rfl
          omega
        obtain ⟨vsL, hv1, hv2⟩ := hr6
        have hbW : Below W2.heap.size W2 w6 := HB4.out.trans (hb46.mono s4)
        have HI := Lib.hid (show EinI w w6 (M : Int) A c es w2.heap.size W2.heap.size w6.heap.size cr Ar A1 xs (.slice (some ⟨w2.heap.size, 0, none⟩) 0 0) vsL L [] from
          ⟨G4.out.next hb46, (HXI.out.below (Nat.le_refl _) hb46).wide (Nat.le_refl _) hb46.size,
           ⟨[], HOW.out.kept (row := none) ⟨hbW.os, hbW.tape, hbW.output, hbW.size, fun i hi _ => hbW.block i hi⟩ (Classical.em _), fun i r h => by simp at h⟩,
           fun g e => .inl (by have := Option.some.inj (show some w2.heap.size = some g from e); omega), SSOwnV.mono ⟨hv1, hv2⟩ hW4, Nat.le_refl _,
           ⟨by omega, fun g e => by have := hv1.lt g e; omega⟩, ⟨hlb, by omega⟩⟩)
        rw [← HF02.out] at HI
        obtain ⟨lb, hlbe⟩ : ∃ x, x = w2.heap.size := ⟨_, rfl⟩
        obtain ⟨lo, hloe⟩ : ∃ x, x = W2.heap.size := ⟨_, rfl⟩
        obtain ⟨hh, hhhe⟩ : ∃ x, x = w6.heap.size := ⟨_, rfl⟩
        rw [← hlbe] at HI ⊢
        rw [← hloe, ← hhhe] at HI
        clear hb46 s5 s6 s4 hW4 hv1 hv2 hbW hb5 hb6 hri HXI HOW HB3 HB4 HP0 DC HF02 hlbe hloe hhhe hlb hlo G2 G3 G4 c0 c1 HP HL HW HX HD G1 HW2
        go_wp2
        go_loopw [6, 10, 11, 12, 40] (fun v _ _ _ i wr => ∃ t : Nat, t ≤ L.length ∧ i = .int .i64 t ∧ EinI w wr (M : Int) A c es lb lo hh cr Ar A1 xs v vsL L (F t)) (fun _ _ _ _ i _ => L.length - (intOf i).toNat)
        case atStart => exact ⟨0, Nat.zero_le _, rfl, HI.out⟩
        case round =>
          clear HI
          obtain ⟨t, htL, rfl, hI⟩ := hrel
          have HI := Lib.hid hI
          clear hI
          have ht0 : (0 : Int) ≤ (t : Int) := Int.natCast_nonneg _
          by_cases htl : t < L.length
          · have ht1 : (t : Int) < (L.length : Int) := by omega
            obtain ⟨r, hr⟩ : ∃ r, L[t]? = some r := ⟨_, List.getElem?_eq_getElem htl⟩
            have hmem := List.mem_of_getElem? hr
            have hrl : 0 < r.length := by rw [(HDV.out r hmem).2]; exact HM0.out
            obtain ⟨gL, b, cb, rfl, hcell, hq, hgl⟩ := HI.out.rows.at2 hr hrl
            have hst := HST2.out t r hr
            have HC := HRD r hmem (some ⟨b, 0, none⟩) cb wr (HE.out.up_ HI.out.g.old) hq.ints
            have hly := Lib.hid (HRL.out r hmem)
            obtain ⟨ys, hys⟩ : ∃ x, x = redR (M : Int) es r 0 := ⟨_, rfl⟩
            rw [← hys] at hst HC hly
            have HQ := Lib.hid hq
            have HSTT := Lib.hid hst
            have c0 := HI.out.g.c0
            have c1 := HI.out.g.c1
            clear hr hmem hq hst hys
            go_wp2_with fail
            refine HC.out.mono ?_
            rintro e w7 ⟨A3, A4, c3', c4', rfl, ho, -, hb7⟩
            have HI7 := Lib.hid (HI.out.next hb7)
            have HQ7 := Lib.hid (HQ.out.below hb7)
            have HO := Lib.hid ho.ints
            clear hb7 ho c0 c1 HI HQ HC hcell
            have HZ := Lib.hid (show Calls Try.prog 21 #[.slice A1 M c1', .slice A3 M c3'] w7 fun e w' => e = .returned (.bool (decide (xs = ys))) ∧ Below w7.heap.size w7 w' by
              have h := specSameD A1 A3 c1' c3' xs ys w7 (by rw [hl1.out]; exact HM6.out) (by rw [hly.out]; exact HM6.out) (HI7.out.x.ints HI7.out.hile) HO.out
              rw [hl1.out, hly.out] at h
              exact h)
            by_cases hxy : xs = ys
            · have hF1 := HSTT.out
              rw [if_pos hxy] at hF1
              rw [decide_eq_true hxy] at HZ
              have HF1 := Lib.hid hF1
              clear hF1 hxy HSTT
              go_wp2_with fail
              refine HZ.out.mono ?_
              rintro e w8 ⟨rfl, hb8⟩
              have HI8 := Lib.hid (HI7.out.next hb8)
              have HQ8 := Lib.hid (HQ7.out.below hb8)
              clear hb8 HI7 HQ7 HO HZ
              obtain ⟨vs, k1, k2, k3⟩ := HI8.out.push HQ8.out
              have K1 := Lib.hid k1
              have K3 := Lib.hid k3
              have hFt := hFL2 t
              have n3 : (F t).length + 1 ≤ maxLen := by unfold maxLen; omega
              have n4 : ((F t).length + 1) * 24 ≤ 140737488355328 := by omega
              clear k1 k3 HI8 HQ8
              go_wp2_with (at_builtin; refine wpList_append_own_at _ rfl _ _ 37 rfl lb 25 i1 (.slice none 0 0) 1 24 Try.underlying37 hj hy0 hy1 hy2 rfl (by decide) _ _ _ rfl K1.out ⟨w8.heap.size, 0, none⟩ 1 1 [_] rfl rfl (one_cell _ _ rfl _ _) (fun u hu => by rw [List.mem_singleton] at hu; rw [hu]; rfl) n3 n4 k2 ?_)
              intro v3 w9 hown3 hgrow3 _ hat
              have hI9 := K3.out w9 v3 hown3 hgrow3 hat
              rw [← HF1.out] at hI9
              have HI9 := Lib.hid hI9
              clear hI9 hown3 hgrow3 hat K1 K3 HF1
              go_wp2
              exact ⟨⟨t + 1, by omega, by go_num, HI9.out⟩, by simp [intOf]; omega⟩
            · have hF1 := HSTT.out
              rw [if_neg hxy] at hF1
              rw [decide_eq_false hxy] at HZ
              have HF1 := Lib.hid hF1
              clear hF1 hxy HSTT
              go_wp2_with fail
              refine HZ.out.mono ?_
              rintro e w8 ⟨rfl, hb8⟩
              have hI8 := HI7.out.next hb8
              rw [← HF1.out] at hI8
              have HI8 := Lib.hid hI8
              clear hb8 HI7 HQ7 HO HZ hI8 HF1
              go_wp2
              exact ⟨⟨t + 1, by omega, by go_num, HI8.out⟩, by simp [intOf]; omega⟩
          · have ht1 : ¬ ((t : Int) < (L.length : Int)) := by omega
            have hT : t = L.length := by omega
            obtain ⟨vs, hs1, hs2⟩ := HI.out.out
            have hso := SSOwn.mono (show SSOwn wr lb _ (F t) from ⟨vs, hs1, hs2⟩) (base' := w.heap.size) (by have := HI.out.lbs; omega)
            rw [hT] at hso ⊢
            have HRO := Lib.hid hso
            have HOLD := Lib.hid HI.out.g.old
            clear hs1 hs2 hso HI hT ht0 ht1 htL
            have hll : ¬ ((L.length : Int) < (L.length : Int)) := by omega
            go_wp2
            go_ret2
            exact ⟨_, rfl, HRO.out, HOLD.out⟩
    · have h3 : einOk N es d = false := ein_no2 h2
      rw [einB_f h3, h3]
      obtain ⟨k, hk⟩ : ∃ k, k = degB d d.length := ⟨_, rfl⟩
      rw [← hk] at HX h2
      clear h1 h3 hk HW
      go_enter Try.func12, Try.ntmps12
      go_wp2_with fail
      refine (HD _ (HE.out.up_ G0.old) (HS.out.up_ G0.old)).out.mono ?_
      rintro e w1 ⟨rfl, hb1⟩
      have G1 := Lib.hid (G0.next hb1)
      clear G0 hb1
      go_wp2_with fail
      refine (HX _ (HS.out.up_ G1.out.old)).out.mono ?_
      rintro e w2 ⟨rfl, hb2⟩
      have G2 := Lib.hid (G1.out.next hb2)
      clear hb2
      go_wp2
      go_ret2
      exact ⟨_, rfl, SSOwn.nil0 _ _, G2.out.old⟩
theorem specEin (N : Int) (A D : Option Addr) (c cd : Nat) (es : List (Int × Int)) (d : List Int) (w : World) (hn : es.length ≤ 1048576) (hd : d.length ≤ 1048576) (hE : EdgeS w w.heap.size A es) (hS : IntS w w.heap.size D d) :
    Calls Try.prog 12 #[.agg #[.int .i64 N, .slice A es.length c], .slice D d.length cd] w (GivesRowsOk w (einB N es d) (einOk N es d)) := by
  refine (specEinO N A D c cd es d w hn hd hE hS).mono ?_
  rintro e w' ⟨v, rfl, ho, hb⟩
  obtain ⟨Ar, cr, rfl, hr⟩ := ho.rows
  exact ⟨Ar, cr, rfl, hr, hb⟩
end Go.Proofs.Ytklaanohbpcifaa
