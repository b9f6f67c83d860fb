/- The program's fireSpared and reduce. -/
import Derived.Test.YtcfhkaefjhcglaaRdK
import Derived.Test.YtcfhkaefjhcglaaFireB
namespace Go.Proofs.Ytcfhkaefjhcglaa
open Go.RowKit

theorem inL_up (M : Nat) (bs : List Int) (f : Nat → Int) (t : Int) : addSet f (inL (sparedL M bs)) t = addSet f (upU bs M) t := by
  funext u
  unfold addSet
  have : inL (sparedL M bs) (u : Int) = upU bs M (u : Int) := by
    rw [Bool.eq_iff_iff]
    simp only [inL, upU, decide_eq_true_eq, sparedL_mem, Bool.and_eq_true, Bool.not_eq_true', decide_eq_false_iff_not]
    constructor
    · rintro ⟨_, h2, h3⟩
      exact ⟨h3, h2⟩
    · rintro ⟨h1, h2⟩
      exact ⟨by omega, h2, h1⟩
  rw [this]
theorem inL_take {l : List Int} {k v : Nat} (f : Nat → Int) (t : Int) (h : l[k]? = some (v : Int)) (hn : l.Nodup) : addAt (addSet f (inL (l.take k)) t) v t = addSet f (inL (l.take (k + 1))) t := by
  have hnm : ¬ (v : Int) ∈ l.take k := fun hm => by
    have h3 : (l.take (k + 1)).Nodup := hn.sublist (List.take_sublist _ _)
    rw [take_snocK h, List.nodup_append] at h3
    exact absurd rfl (h3.2.2 _ hm _ (by simp))
  funext u
  rw [take_snocK h]
  unfold addAt addSet
  by_cases e : u = v
  · subst e
    simp [inL, hnm]
  · have : ¬ (u : Int) = (v : Int) := by omega
    simp [inL, e, this]
theorem inL_zero (f : Nat → Int) (t : Int) : addSet f (inL []) t = f := by
  funext u
  simp [addSet, inL]
theorem OwnI.keep_ {w w' : World} {base : Nat} {A : Option Addr} {zs : List Int} (h : OwnI w base A zs) (hs : w.heap.size ≤ w'.heap.size) (hk : ∀ i, i < w.heap.size → base ≤ i → w'.heap[i]? = w.heap[i]?) : OwnI w' base A zs := fun hn => by
  obtain ⟨k, off, e, h1, hl, hc⟩ := h hn
  have hbl := hk k hl h1
  exact ⟨k, off, e, h1, Nat.lt_of_lt_of_le hl hs, fun i z hz => ⟨(World.cell?_of_block (a := ⟨k, off + i, none⟩) hbl).trans (hc i z hz).1, (World.frozen?_of_block (a := ⟨k, off + i, none⟩) hbl).trans (hc i z hz).2⟩⟩
theorem keepRd {w W w2 : World} {p r : Addr} {a b : Value} (hS : W.cell? p = some a ∧ W.cell? r = some b ∧ Below w.heap.size w W) (hb : Below W.heap.size W w2) (hp : p.block < w.heap.size) (hr : r.block < w.heap.size) : w2.cell? p = some a ∧ w2.cell? r = some b ∧ Below w.heap.size w w2 := by
  obtain ⟨h1, h2, h5⟩ := hS
  have hz := h5.size
  exact ⟨(hb.cell (by omega)).trans h1, (hb.cell (by omega)).trans h2, h5.trans (hb.mono hz)⟩
section
variable {M : Nat} {es : List (Int × Int)} {d : List Int} {q : Nat} {f : Nat → Int} {σ : Nat → Int}
/-- some spared vertex has an edge to the fire -/
theorem spared_hot {bs : List Int} (hc : Cut M es) (hes : ∀ e ∈ es, 0 ≤ e.1 ∧ e.1 < e.2 ∧ e.2 < (M : Int)) (hb : Burns M (q : Int) bs) (hne : sparedL M bs ≠ []) : ∃ v : Nat, v < M ∧ (v : Int) ∈ sparedL M bs ∧ 0 < heat (inL bs) v es := by
  apply Classical.byContradiction
  intro hno
  have hall := hc.all hes hb fun v hv hnb => by
    apply Classical.byContradiction
    intro hp
    exact hno ⟨v, hv, sparedL_mem.2 ⟨by omega, by omega, hnb⟩, by omega⟩
  obtain ⟨x, hx⟩ := List.exists_mem_of_ne_nil _ hne
  obtain ⟨h1, h2, h3⟩ := sparedL_mem.1 hx
  have := hall x.toNat (by omega)
  rw [show ((x.toNat : Nat) : Int) = x by omega] at this
  exact h3 this
theorem spared_nil {bs : List Int} (hb : Burns M (q : Int) bs) (h : sparedL M bs = []) : bs.length = M :=
  hb.full_iff.2 fun v hv => by
    apply Classical.byContradiction
    intro hn
    have := sparedL_mem.2 ⟨Int.natCast_nonneg v, show (v : Int) < (M : Int) by omega, hn⟩
    rw [h] at this
    cases this
end
set_option maxRecDepth 100000 in
set_option maxHeartbeats 8000000 in
theorem fireSpared_any (B pr pb g cg gs M q : Nat) (A : Option Addr) (cA : Nat) (es : List (Int × Int)) (d : List Int) (f0 : Nat → Int) (σ : Nat → Int) (w : World) (hM0 : 0 < M) (hM : M ≤ 6) (hq : q < M) (hn : es.length ≤ 12) (hes : ∀ e ∈ es, 0 ≤ e.1 ∧ e.1 < e.2 ∧ e.2 < (M : Int)) (hdb : ∀ u, -60 ≤ d.getD u 0 ∧ d.getD u 0 ≤ 60) (hc : Cut M es) (hw : Wt M es q σ)
    (hBw : B ≤ w.heap.size) (hE : EdgeS w B A es) (hN : RdN B pr pb g gs) (hP : Ph2 M es d q σ f0) (hR : RdI w B pr pb g cg gs M q A cA es d f0) :
    Calls Try.prog 104 #[.pointer (some ⟨pr, 0, none⟩)] w fun e w' => e = .returned (.tuple #[]) ∧ ∃ f, IsRed M es d q f ∧ RdI w' B pr pb g cg gs M q A cA es d f ∧ Below B w w' := by
  have HN := Lib.hid hn
  have HW := Lib.hid hw
  have HES := Lib.hid hes
  have HDB := Lib.hid hdb
  have HCU := Lib.hid hc
  have HE := Lib.hid hE
  have HNN := Lib.hid hN
  have HR := Lib.hid hR
  have HP := Lib.hid hP
  have HSM := Lib.hid (hP.sum hw hM hes)
  have hBz := hBw
  have hq0 : (0 : Int) ≤ (q : Int) := Int.natCast_nonneg _
  clear hw hes hdb hc hE hN hR hP
  go_enter Try.func104, Try.ntmps104
  go_wp2
  go_loopg [2, 3, 4, 6, 26] (8143560 - sumV f0 M).toNat (fun gk _ _ _ _ _ wr => ∃ (f : Nat → Int), Hid ((gk : Int) = 8143560 - sumV f M) ∧ Hid (Ph2 M es d q σ f) ∧ Hid (RdI wr B pr pb g cg gs M q A cA es d f) ∧ Hid (Below B w wr) ∧ Hid (B ≤ wr.heap.size))
  case atStart => exact ⟨f0, Lib.hid (by have := HSM.out; omega), HP, HR, Lib.hid (Below.refl _ _), Lib.hid hBz⟩
  case round =>
    clear HP HR HSM
    obtain ⟨f, HG, HP, HR, HBL, HSZ⟩ := hrel
    have HF := Lib.hid (HP.out.high HW.out hM HES.out)
    have BRN := fun (w' : World) (hb : Below wr.heap.size wr w') => Lib.hid (show Calls Try.prog 129 #[.pointer (some ⟨pb, 0, none⟩), .int .i64 (q : Int)] w' (fun e w'' => ∃ (base pf gh ch : Nat) (h : Nat → Int), e = .returned (.pointer (some ⟨pf, 0, none⟩)) ∧ Blaze w'' w'.heap.size base pf gh ch pb M (burntL M es (chipsOf M (Dv d es f)) (q : Int)) h ∧ HeatIs es (burntL M es (chipsOf M (Dv d es f)) (q : Int)) h ∧ Below w'.heap.size w' w'') from burn_any pb g cg cA M q A es (chipsOf M (Dv d es f)) w' hM0 hM hq (chipsOf_len _ _) HN.out HES.out (Nat.lt_of_lt_of_le HR.out.brd.lt hb.size) (HR.out.brd.below hb HR.out.brd.lt) (HR.out.chips.below hb) (HE.out.keep (fun p hp => (HBL.out.trans (hb.mono HSZ.out)).cell (by omega)) (Nat.le_trans HSZ.out hb.size)))
    have hbt := burntL_all (M := M) (es := es) (d := chipsOf M (Dv d es f)) (q := (q : Int)) (by omega)
    have HPN := fun (t : Int) (ht : 0 ≤ t) (h : ∀ v : Nat, v < M → ¬ (v : Int) ∈ burntL M es (chipsOf M (Dv d es f)) (q : Int) → t * heat (inL (burntL M es (chipsOf M (Dv d es f)) (q : Int))) v es ≤ Dv d es f v) => Lib.hid (HP.out.next HW.out hq HES.out ht h)
    have HCN := Lib.hid (fun (v : Nat) (hv : v < M) (hnb : ¬ (v : Int) ∈ burntL M es (chipsOf M (Dv d es f)) (q : Int)) => show heat (inL (burntL M es (chipsOf M (Dv d es f)) (q : Int))) v es ≤ Dv d es f v from by
      have h1 := nextV_no hbt.2 v hv
      simp only [catchV, Bool.and_eq_false_iff, decide_eq_false_iff_not, Bool.not_eq_false'] at h1
      rw [Dv_get HN.out HDB.out HES.out HF.out hv] at h1
      rcases h1 with g | g
      · omega
      · exact absurd (by simpa [inL] using g) hnb)
    have HRD := Lib.hid (fun (hl : (burntL M es (chipsOf M (Dv d es f)) (q : Int)).length = M) => HP.out.red HW.out hM HES.out hl)
    obtain ⟨bs, hbs⟩ : ∃ x, x = burntL M es (chipsOf M (Dv d es f)) (q : Int) := ⟨_, rfl⟩
    rw [← hbs] at BRN
    rw [← hbs] at hbt HPN HCN HRD
    have HBU := Lib.hid hbt.1
    have hbl := hbt.1.len
    have hbl0 : 0 < bs.length := List.length_pos_of_mem hbt.1.first
    have HBS := Lib.hid hbs
    have r0 : wr.cell? ⟨pr, 0, none⟩ = some (.pointer (some ⟨pb, 0, none⟩)) := by rw [HR.out.red.cell]; rfl
    have r1 : wr.cell? ⟨pr, 1, none⟩ = some (.int .i64 (q : Int)) := by rw [HR.out.red.cell]; rfl
    have lr := HR.out.red.lt
    obtain ⟨gx, rfl⟩ : ∃ gx : Nat, gx = gk := ⟨_, rfl⟩
    obtain ⟨wo, rfl⟩ : ∃ wo : World, wo = wr := ⟨_, rfl⟩
    clear hbt hbs
    go_wp2_with fail
    go_region_held3 (fun w' => w'.cell? ⟨pr, 0, none⟩ = some (.pointer (some ⟨pb, 0, none⟩)) ∧ w'.cell? ⟨pr, 1, none⟩ = some (.int .i64 (q : Int)) ∧ Below wo.heap.size wo w')
      (first
        | exact ⟨r0, r1, (Below.refl _ _).drew⟩
        | assumption
        | exact keepRd (by assumption) hb6 lr lr)
      (first
        | (go_at_call 129; refine (BRN _ (Below.refl _ _).drew).out.mono ?_; rintro e w6 ⟨base, pf, gh, ch, h, rfl, hz, hh, hb6⟩))
    have hb7 : Below wo.heap.size wo w6 := ((Below.refl _ _).drew).trans hb6
    have HZ := Lib.hid hz
    have HH := Lib.hid hh
    have HR6 := Lib.hid (HR.out.below hb7)
    have HB6 := Lib.hid (HBL.out.trans (hb7.mono HSZ.out))
    have HS6 := Lib.hid (Nat.le_trans HSZ.out hb7.size)
    have SP := Lib.hid (spared_any _ base pf gh ch pb M bs h w6 hM (by omega) hbl0 hz)
    clear hb6 hb7 hz hh r0 r1 lr BRN
    go_wp2_with fail
    refine SP.out.mono ?_
    rintro e w7 ⟨S7, c7, rfl, ho7, hb7⟩
    have HZ7 := Lib.hid (HZ.out.below hb7)
    have HR7 := Lib.hid (HR6.out.below hb7)
    have HB7 := Lib.hid (HB6.out.trans (hb7.mono HS6.out))
    have HS7 := Lib.hid (Nat.le_trans HS6.out hb7.size)
    have HO7 := Lib.hid ho7
    have HK6 := Lib.hid (show g < w6.heap.size ∧ gs < w6.heap.size from ⟨HR6.out.chips.lt, HR6.out.scr.lt⟩)
    have HI7 := Lib.hid ho7.ints
    clear ho7 hb7 HZ HR6 HB6 SP
    have hsl := sparedL_len M bs
    have hnd := sparedL_nodup M bs
    obtain ⟨K6, hK6⟩ : ∃ x, x = w6.heap.size := ⟨_, rfl⟩
    rw [← hK6] at HO7 HK6
    have HME := Lib.hid (fun (x : Int) => sparedL_mem (M := M) (ord := bs) (x := x))
    have HUP := Lib.hid (fun (f : Nat → Int) (t : Int) => inL_up M bs f t)
    have HNI := Lib.hid (fun (h : sparedL M bs = []) => spared_nil HBU.out h)
    have HHO := Lib.hid (fun (h : sparedL M bs ≠ []) => spared_hot HCU.out HES.out HBU.out h)
    obtain ⟨L, hL⟩ : ∃ x, x = sparedL M bs := ⟨_, rfl⟩
    rw [← hL] at HO7 HI7 hsl hnd HME HUP HNI HHO ⊢
    have HND := Lib.hid hnd
    clear hL hK6 hnd
    by_cases h0 : L.length = 0
    · have t1 : ((L.length : Int) == 0) = true := by simp [h0]
      have HIR := Lib.hid (HRD.out (HNI.out (List.eq_nil_of_length_eq_zero h0)))
      clear h0
      go_wp2
      refine bodyPost_ret (results_none rfl _ _ _) rfl ?_
      exact ⟨rfl, f, HIR.out, HR7.out, HB7.out⟩
    · have t1 : ((L.length : Int) == 0) = false := by rw [beq_eq_false_iff_ne]; omega
      have hne : L ≠ [] := fun h => h0 (by rw [h]; rfl)
      obtain ⟨v0, hv0, hvm0, hvh0⟩ := HHO.out hne
      have hfb := fun (u : Nat) (_ : u < M) => Dv_bound (M := M) (f := f) (d := d) HN.out (fun u => by have := HDB.out u; omega) HES.out HF.out u
      have FR := Lib.hid (firings_any _ base pf gh ch pb M g cg (.slice A es.length cA) S7 c7 w7.heap.size (Dv d es f) h bs L w7 hM (by omega) (fun x hx => ⟨((HME.out x).1 hx).1, ((HME.out x).1 hx).2.1⟩) hfb (fun u => by
        have h1 := heat_lo (inL bs) u es
        have h2 := HH.out u
        have h3 := HN.out
        omega) (fun v hv => by
        rw [HH.out v]
        have h1 := (HME.out _).1 hv
        exact HCN.out v (by omega) h1.2.2) HR7.out.brd HR7.out.chips HI7.out (Nat.le_refl _) HZ7.out)
      clear h0 hne hfb
      go_wp2_with fail
      refine FR.out.mono ?_
      rintro e w8 ⟨⟨T, rfl, hal⟩, hb8⟩
      have hT1 := hal.1
      have hT2 : T ≤ 1000000000000 := by
        have h1 := hal.2.2 v0 hvm0 (by rw [HH.out v0]; exact hvh0)
        have h2 := (quo_pos (x := Dv d es f v0) (y := h v0) (by rw [HH.out v0]; exact hvh0) (by rw [HH.out v0]; exact HCN.out v0 hv0 ((HME.out _).1 hvm0).2.2)).2.1
        have h3 := (Dv_bound (M := M) (f := f) (d := d) HN.out (fun u => by have := HDB.out u; omega) HES.out HF.out v0).2
        omega
      have HPX := HPN T (by omega) (fun v hv hnb => by
        have h1 := (heat_lo (inL bs) v es).1
        by_cases hz : heat (inL bs) v es = 0
        · rw [hz]
          have := HP.out.pos v hv (fun e => hnb (by rw [e]; exact HBU.out.first))
          omega
        · have h2 := hal.2.2 v ((HME.out _).2 ⟨by omega, by omega, hnb⟩) (by rw [HH.out v]; omega)
          have h3 := (quo_pos (x := Dv d es f v) (y := h v) (by rw [HH.out v]; omega) (by rw [HH.out v]; exact HCN.out v hv hnb)).2.2
          rw [HH.out v] at h2 h3
          have h4 := Int.mul_le_mul_of_nonneg_right h2 h1
          omega)
      have HSX := Lib.hid (addSet_sum (M := M) (f := f) (U := upU bs M) (t := T) (by omega) ⟨v0, hv0, by
        have h1 := ((HME.out _).1 hvm0).2.2
        simp [upU, inL, h1, hv0]⟩)
      have HSY := Lib.hid (HPX.out.sum HW.out hM HES.out)
      have HR8 := Lib.hid (HR7.out.below hb8)
      have HB8 := Lib.hid (HB7.out.trans (hb8.mono HS7.out))
      have HS8 := Lib.hid (Nat.le_trans HS7.out hb8.size)
      have HO8 := Lib.hid (HO7.out.below hb8)
      clear hal hb8 HZ7 HR7 HB7 HI7 HO7 FR hvm0 hvh0
      go_wp2
      go_loopg [6, 26] L.length (fun gj _ s26 wx => ∃ k : Nat, k ≤ L.length ∧ gj + k = L.length ∧ s26 = .int .i64 k ∧ Hid (RdI wx B pr pb g cg gs M q A cA es d (addSet f (inL (L.take k)) T)) ∧ Hid (Below B w wx) ∧ Hid (B ≤ wx.heap.size) ∧ Hid (OwnI wx K6 S7 L))
      case atStart => exact ⟨0, Nat.zero_le _, by omega, rfl, Lib.hid (by rw [List.take_zero, inL_zero]; exact HR8.out), HB8, HS8, HO8⟩
      case round =>
        obtain ⟨k, hk, hgk, rfl, HRk, HBk, HSk, HOk⟩ := hrel
        by_cases hlt : k < L.length
        · obtain ⟨b1, o1, x, hS7, hb1, he, hc0⟩ := HOk.out.ints.at_ hlt
          subst hS7
          have hi0 : (0 : Int) ≤ (k : Int) := Int.natCast_nonneg _
          have hi1 : (k : Int) < (L.length : Int) := by omega
          have hxm := (HME.out x).1 (List.mem_of_getElem? he)
          obtain ⟨v, rfl⟩ : ∃ v : Nat, x = (v : Int) := ⟨x.toNat, by omega⟩
          have hvM : v < M := by omega
          have HTK := Lib.hid (inL_take f T he HND.out)
          have FIR := Lib.hid (fireR_any B pr pb g cg gs M q v A cA es d (addSet f (inL (L.take k)) T) T wr HSk.out hvM HN.out HES.out (HE.out.keep (fun p hp => HBk.out.cell (by omega)) (Nat.le_refl _)) HNN.out HRk.out)
          clear he hxm
          go_wp2_with fail
          refine FIR.out.mono ?_
          rintro e w9 ⟨rfl, hr9, hb9, hk9⟩
          rw [HTK.out] at hr9
          have HR9 := Lib.hid hr9
          have HB9 := Lib.hid (HBk.out.trans hb9)
          have HS9 := Lib.hid (Nat.le_trans HSk.out hb9.size)
          have HO9 := Lib.hid (HOk.out.keep_ hb9.size (fun i hi hbi => hk9 i hi (by have := HK6.out; omega) (by have := HK6.out; omega)))
          clear hr9 hb9 hk9 hc0 FIR
          go_wp2
          go_roundg (gk - 1)
          case measure => omega
          case rel => exact ⟨k + 1, by omega, by omega, by go_num, HR9, HB9, HS9, HO9⟩
        · have hr9 := HRk.out
          rw [List.take_of_length_le (by omega), HUP.out] at hr9
          have HR9 := Lib.hid hr9
          clear hr9
          go_wp2
          go_roundg (8143560 - sumV (addSet f (upU bs M) T) M).toNat
          case measure =>
            have a1 := HG.out
            have a2 := HSX.out
            have a3 := HSY.out
            omega
          case rel => exact ⟨_, Lib.hid (by have := HSY.out; omega), HPX, HR9, HBk, HSk⟩
end Go.Proofs.Ytcfhkaefjhcglaa
