/- AnswerTo: the specification's side. -/
import Derived.Test.YtpdnfijeahdahaaRnkS
import Derived.Test.YtpdnfijeahdahaaEinS
import Derived.Test.YtpdnfijeahdahaaBL
namespace Go.Proofs.Ytpdnfijeahdahaa
open Go.RowKit

noncomputable def ansOk (N : Int) (es : List (Int × Int)) (d e : List Int) : Bool := einOk N es d && (divB 60 N es e && posAll e)
def ansF (L : List (List Int)) (e : List Int) : Option (List Int) := L.find? fun x => posAll (subB x e)
noncomputable def ansB (N : Int) (es : List (Int × Int)) (d e : List Int) : List Int := if ansOk N es d e = true then (ansF (einB N es d) e).getD [] else []
noncomputable def ansH (N : Int) (es : List (Int × Int)) (d e : List Int) : Bool := ansOk N es d e && (ansF (einB N es d) e).isSome
theorem ans_f {N : Int} {es : List (Int × Int)} {d e : List Int} (h : ansOk N es d e = false) : ansB N es d e = [] ∧ ansH N es d e = false := by
  rw [ansB, ansH, h, if_neg (by decide)]
  exact ⟨rfl, rfl⟩
theorem ans_t {N : Int} {es : List (Int × Int)} {d e : List Int} (h : ansOk N es d e = true) : ansB N es d e = (ansF (einB N es d) e).getD [] ∧ ansH N es d e = (ansF (einB N es d) e).isSome := by
  rw [ansB, ansH, h, if_pos rfl]
  exact ⟨rfl, rfl⟩
theorem ans_at {L : List (List Int)} {e x : List Int} {t : Nat} (h : ansF (L.take t) e = none) (hx : L[t]? = some x) : (posAll (subB x e) = true → ansF L e = some x) ∧ (posAll (subB x e) = false → ansF (L.take (t + 1)) e = none) := by
  refine ⟨fun h1 => ?_, fun h1 => ?_⟩
  · have ht := (List.getElem?_eq_some_iff.1 hx).1
    have h2 : L = L.take t ++ x :: L.drop (t + 1) := by
      have h3 := List.drop_eq_getElem_cons ht
      rw [List.getElem?_eq_getElem ht] at hx
      injection hx with hx
      rw [hx] at h3
      rw [← h3, List.take_append_drop]
    rw [h2]
    unfold ansF at h ⊢
    rw [List.find?_append, h, List.find?_cons, h1]
    rfl
  · rw [List.take_add_one, hx]
    unfold ansF at h ⊢
    rw [List.find?_append, h]
    simp [h1]
theorem ein_row {M : Nat} {es : List (Int × Int)} {d x : List Int} (h : x ∈ einB (M : Int) es d) : x.length = M := by
  unfold einB at h
  split at h
  · unfold einL at h
    rw [List.mem_filter] at h
    exact (effB_mem _ _ x h.1).1
  · cases h
theorem ein_size {M : Nat} {es : List (Int × Int)} {d : List Int} (hM : M ≤ 6) (h : einOk (M : Int) es d = true) : (einB (M : Int) es d).length ≤ 262144 := by
  simp only [einOk, Bool.and_eq_true, decide_eq_true_eq] at h
  unfold einB
  split
  · unfold einL
    exact Nat.le_trans (List.length_filter_le _ _) (effB_small hM h.2)
  · simp
theorem ansB_len {N : Int} {es : List (Int × Int)} {d e : List Int} : (ansB N es d e).length ≤ 1048576 := by
  cases h : ansOk N es d e with
  | false => rw [(ans_f h).1]; simp
  | true =>
    rw [(ans_t h).1]
    cases hf : ansF (einB N es d) e with
    | none => simp
    | some x =>
      have hm := List.mem_of_find?_eq_some hf
      simp only [ansOk, einOk, Bool.and_eq_true] at h
      obtain ⟨M, rfl, hM0, hM6, -⟩ := div_limsB h.1.1
      rw [Option.getD_some, ein_row hm]
      omega
set_option maxRecDepth 100000 in
set_option maxHeartbeats 4000000 in
theorem specAns (N : Int) (A D E : Option Addr) (c cd ce : Nat) (es : List (Int × Int)) (d x : List Int) (w : World) (hn : es.length ≤ 1048576) (hd : d.length ≤ 1048576) (hx : x.length ≤ 1048576) (hE : EdgeS w w.heap.size A es) (hS : IntS w w.heap.size D d) (hT : IntS w w.heap.size E x) :
    Calls Try.prog 27 #[.agg #[.int .i64 N, .slice A es.length c], .slice D d.length cd, .slice E x.length ce] w (GivesIntsOk w (ansB N es d x) (ansH N es d x)) := by
  have HE := Lib.hid hE
  have HS := Lib.hid hS
  have HT := Lib.hid hT
  clear hE hS hT
  have G0 := GB.start w N A c es
  have HX := fun w h1 h2 => Lib.hid (specEinO N A D c cd es d w hn hd h1 h2)
  have HD := fun w h1 h2 => Lib.hid (specDiv N A E c ce es x w hn hx h1 h2)
  have HF := fun w h1 => Lib.hid (specEff E ce x w hx h1)
  cases h1 : einOk N es d with
  | false =>
    have h0 := ans_f (N := N) (es := es) (d := d) (e := x) (by simp [ansOk, h1])
    rw [h0.1, h0.2]
    rw [h1] at HX
    obtain ⟨L, hL⟩ : ∃ L, L = einB N es d := ⟨_, rfl⟩
    rw [← hL] at HX
    clear h1 h0 HD HF hL
    go_enter Try.func27, Try.ntmps27
    go_wp2_with fail
    refine (HX _ (HE.out.up_ G0.old) (HS.out.up_ G0.old)).out.mono ?_
    rintro e w1 ⟨v1, rfl, -, hb1⟩
    have G1 := Lib.hid (G0.next hb1)
    clear G0 hb1
    go_wp2
    go_ret2
    exact ⟨none, 0, rfl, OwnI.nil _ _ _, G1.out.old⟩
  | true =>
    rw [h1] at HX
    cases h2 : divB 60 N es x with
    | false =>
      have h0 := ans_f (N := N) (es := es) (d := d) (e := x) (by simp [ansOk, h2])
      rw [h0.1, h0.2]
      rw [h2] at HD
      obtain ⟨L, hL⟩ : ∃ L, L = einB N es d := ⟨_, rfl⟩
      rw [← hL] at HX
      clear h1 h2 h0 HF hL
      go_enter Try.func27, Try.ntmps27
      go_wp2_with fail
      refine (HX _ (HE.out.up_ G0.old) (HS.out.up_ G0.old)).out.mono ?_
      rintro e w1 ⟨v1, rfl, -, hb1⟩
      have G1 := Lib.hid (G0.next hb1)
      have c0 := G1.out.c0
      have c1 := G1.out.c1
      clear G0 hb1
      go_wp2_with fail
      refine (HD _ (HE.out.up_ G1.out.old) (HT.out.up_ G1.out.old)).out.mono ?_
      rintro e w2 ⟨rfl, hb2⟩
      have G2 := Lib.hid (G1.out.next hb2)
      clear hb2 c0 c1
      go_wp2
      go_ret2
      exact ⟨none, 0, rfl, OwnI.nil _ _ _, G2.out.old⟩
    | true =>
      rw [h2] at HD
      cases h3 : posAll x with
      | false =>
        have h0 := ans_f (N := N) (es := es) (d := d) (e := x) (by simp [ansOk, h3])
        rw [h0.1, h0.2]
        rw [h3] at HF
        obtain ⟨L, hL⟩ : ∃ L, L = einB N es d := ⟨_, rfl⟩
        rw [← hL] at HX
        clear h1 h2 h3 h0 hL
        go_enter Try.func27, Try.ntmps27
        go_wp2_with fail
        refine (HX _ (HE.out.up_ G0.old) (HS.out.up_ G0.old)).out.mono ?_
        rintro e w1 ⟨v1, rfl, -, hb1⟩
        have G1 := Lib.hid (G0.next hb1)
        have c0 := G1.out.c0
        have c1 := G1.out.c1
        clear G0 hb1
        go_wp2_with fail
        refine (HD _ (HE.out.up_ G1.out.old) (HT.out.up_ G1.out.old)).out.mono ?_
        rintro e w2 ⟨rfl, hb2⟩
        have G2 := Lib.hid (G1.out.next hb2)
        clear hb2 c0 c1
        go_wp2_with fail
        refine (HF _ (HT.out.up_ G2.out.old)).out.mono ?_
        rintro e w3 ⟨rfl, hb3⟩
        have G3 := Lib.hid (G2.out.next hb3)
        clear hb3
        go_wp2
        go_ret2
        exact ⟨none, 0, rfl, OwnI.nil _ _ _, G3.out.old⟩
      | true =>
        have h0 := ans_t (N := N) (es := es) (d := d) (e := x) (by simp [ansOk, h1, h2, h3])
        rw [h0.1, h0.2]
        rw [h3] at HF
        obtain ⟨M, rfl, hM0, hM6, -, hxl, -⟩ := div_limsB h2
        have HRL := Lib.hid (fun (y : List Int) (h : y ∈ einB (M : Int) es d) => ein_row h)
        have hsz := ein_size hM6 h1
        obtain ⟨L, hL⟩ : ∃ L, L = einB (M : Int) es d := ⟨_, rfl⟩
        rw [← hL] at HX HRL hsz ⊢
        have HXL := Lib.hid hxl
        have HM0 := Lib.hid hM0
        have HMN := fun (y : List Int) (hy : y.length = M) (Ay : Option Addr) (cy : Nat) (W : World) (h1 : IntS W W.heap.size Ay y) (h2 : IntS W W.heap.size E x) => Lib.hid (specMinus Ay E cy ce y x W hx (by rw [hy, hxl]; exact Nat.le_refl _) h1 h2)
        have HEF := fun (z : List Int) (hz : z.length ≤ 1048576) (Az : Option Addr) (cz : Nat) (W : World) (h1 : IntS W W.heap.size Az z) => Lib.hid (specEff Az cz z W hz h1)
        have HM6 := Lib.hid (show M ≤ 1048576 by omega)
        clear h1 h2 h3 h0 hL hxl hM0 hM6
        go_enter Try.func27, Try.ntmps27
        go_wp2_with fail
        refine (HX _ (HE.out.up_ G0.old) (HS.out.up_ G0.old)).out.mono ?_
        rintro e w1 ⟨v1, rfl, hso, hb1⟩
        have G1 := Lib.hid (G0.next hb1)
        have HSO := Lib.hid hso
        have c0 := G1.out.c0
        have c1 := G1.out.c1
        clear G0 hb1 hso
        go_wp2_with fail
        refine (HD _ (HE.out.up_ G1.out.old) (HT.out.up_ G1.out.old)).out.mono ?_
        rintro e w2 ⟨rfl, hb2⟩
        have G2 := Lib.hid (G1.out.next hb2)
        have HSO2 := Lib.hid (HSO.out.kept hb2)
        clear hb2 c0 c1 HSO G1
        go_wp2_with fail
        refine (HF _ (HT.out.up_ G2.out.old)).out.mono ?_
        rintro e w3 ⟨rfl, hb3⟩
        have G3 := Lib.hid (G2.out.next hb3)
        obtain ⟨vsL, hs1, hs2⟩ := (HSO2.out.kept hb3).mono (base' := w.heap.size) (by simp)
        have HSV := Lib.hid (show SSOwnV w3 w.heap.size v1 vsL L from ⟨hs1, hs2⟩)
        obtain ⟨Ar, cr, rfl, -⟩ := SSOwn.rows HSV.out.one
        clear hb3 HSO2 G2 hs1 hs2 HX HD HF
        go_wp2
        go_loopw [33] (fun i wr => ∃ t : Nat, t ≤ L.length ∧ i = .int .i64 t ∧ GB w wr (M : Int) A c es ∧ SSOwnV wr w.heap.size (.slice Ar L.length cr) vsL L ∧ Hid (ansF (L.take t) x = none)) (fun i _ => L.length - (intOf i).toNat)
        case atStart => exact ⟨0, Nat.zero_le _, rfl, G3.out, HSV.out, Lib.hid rfl⟩
        case round =>
          clear G3 HSV
          obtain ⟨t, htL, rfl, hg, hsv, hno⟩ := hrel
          have G4 := Lib.hid hg
          have HV4 := Lib.hid hsv
          clear hg hsv
          have hti : (0 : Int) ≤ (t : Int) := Int.natCast_nonneg _
          by_cases htl : t < L.length
          · have ht1 : (t : Int) < (L.length : Int) := by omega
            obtain ⟨y, hy⟩ : ∃ y, L[t]? = some y := ⟨_, List.getElem?_eq_getElem htl⟩
            have hyl := HRL.out y (List.mem_of_getElem? hy)
            obtain ⟨gL, b, cb, rfl, hcell, hq, hgl⟩ := HV4.out.at2 hy (by rw [hyl]; exact HM0.out)
            have HQ := Lib.hid hq
            have HA := Lib.hid (ans_at hno.out hy)
            have MN := HMN y hyl (some ⟨b, 0, none⟩) cb wr hq.ints (HT.out.up_ G4.out.old)
            have EF := fun (Az : Option Addr) (cz : Nat) (W : World) (h : IntS W W.heap.size Az (subB y x)) => HEF (subB y x) (by rw [subB_len, hyl]; exact HM6.out) Az cz W h
            clear hq hyl hy hno
            cases hp : posAll (subB y x) with
            | true =>
              rw [hp] at EF
              have HR := Lib.hid (HA.out.1 hp)
              clear hp HA
              go_wp2_with fail
              refine MN.out.mono ?_
              rintro e w5 ⟨A5, c5, rfl, ho5, hb5⟩
              have EF5 := EF A5 c5 w5 ho5.ints
              have G5 := Lib.hid (G4.out.next hb5)
              have HQ5 := Lib.hid (HQ.out.below hb5)
              clear hb5 ho5 EF MN
              go_wp2_with fail
              refine EF5.out.mono ?_
              rintro e w6 ⟨rfl, hb6⟩
              have G6 := Lib.hid (G5.out.next hb6)
              have HOW := Lib.hid (OwnI.of_own (HQ5.out.below hb6))
              clear hb6 HQ5 EF5 G5
              go_wp2
              go_ret2
              rw [HR.out]
              exact ⟨_, _, rfl, HOW.out, G6.out.old⟩
            | false =>
              rw [hp] at EF
              have HR := Lib.hid (HA.out.2 hp)
              clear hp HA
              go_wp2_with fail
              refine MN.out.mono ?_
              rintro e w5 ⟨A5, c5, rfl, ho5, hb5⟩
              have EF5 := EF A5 c5 w5 ho5.ints
              have G5 := Lib.hid (G4.out.next hb5)
              have HV5 := Lib.hid (HV4.out.keep hb5)
              clear hb5 ho5 EF MN
              go_wp2_with fail
              refine EF5.out.mono ?_
              rintro e w6 ⟨rfl, hb6⟩
              have G6 := Lib.hid (G5.out.next hb6)
              have HV6 := Lib.hid (HV5.out.keep hb6)
              clear hb6 HV5 EF5 G5
              go_wp2
              exact ⟨⟨t + 1, by omega, by go_num, G6.out, HV6.out, HR⟩, by simp [intOf]; omega⟩
          · have ht1 : ¬ ((t : Int) < (L.length : Int)) := by omega
            have HN := hno.out
            rw [List.take_of_length_le (by omega)] at HN
            have HN2 := Lib.hid HN
            clear hno HN
            go_wp2
            go_ret2
            rw [HN2.out]
            exact ⟨none, 0, rfl, OwnI.nil _ _ _, G4.out.old⟩
end Go.Proofs.Ytpdnfijeahdahaa
