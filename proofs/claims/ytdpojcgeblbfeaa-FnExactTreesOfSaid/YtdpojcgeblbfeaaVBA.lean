/- One text out of several: Law Base Edge ToEdge IntB Ints Open LawG MarkE OpenI Keep Cell1 HeldE HeldG IntSS OpenSS KeepSS OwnSS. -/
import Derived.Test.YtdpojcgeblbfeaaRows
import Derived.ProofKit
import Derived.Below
import Derived.ChangeSame
import Derived.WalkKit
import Derived.WalkSpells
import Derived.WalkLawsBesides
import Derived.Lib.Hide
import Derived.Outline
import Derived.Deep.Draws
import Derived.Deep.RegionHeld3
import Derived.Deep.DeepFit
import Derived.Laws.MakeOwn
import Derived.Laws.Entries
import Derived.Laws.OwnMore
import Derived.Laws.Rows
import Derived.RegionTactic
import Derived.ChangeAlike
import Derived.Laws.AppendOwn
import Derived.OwnWalk
import Derived.Deep.SlicePairs
import Derived.Lib.SmallJoins
import Derived.Deep.Slices
import Derived.ChangeSlices
import Derived.Deep.Matrix
set_option linter.all false
/- What every law's proof ends with: a call that returns true and changes no old memory keeps the statement of the law (true, and each argument reads as it did). Conditions: the law's arguments are readable data, it lists no variable, its one result is a bool. -/
namespace Go.Proofs.Ytdpojcgeblbfeaa
open Go.RowKit Go.WideShapes Go.ChangeShapes Go.ChangeAt

section
variable {H : Type} {enc : TypeId × Value → H} {P : Program}

theorem trodAll_below {W W' : World} (hl : laidOutB P = true) (hb : Below W.heap.size W W') : ∀ {ts : List TypeId} {vs : List Value} {ds : List (DataW H)} {ps : List MemPlace},
    (ts.all fun t => P.readableRec t && decide (t < P.types.size)) = true → DataW.TrodAll enc P W 0 (fun _ => true) true ts vs ds ps → (∀ p ∈ ps, p.block < W.heap.size) →
    ∀ sp : Nat → Bool, (∀ p ∈ ps, sp p.block = true) → DataW.TrodAll enc P W' 0 sp true ts vs ds ps
  | [], [], [], _, _, h, _, _, _ => h
  | [], _ :: _, _, _, _, h, _, _, _ => h.elim
  | [], [], _ :: _, _, _, h, _, _, _ => h.elim
  | _ :: _, [], _, _, _, h, _, _, _ => h.elim
  | _ :: _, _ :: _, [], _, _, h, _, _, _ => h.elim
  | t :: ts, v :: vs, d :: ds, ps, hr, h, hlt, sp, hsp => by
    obtain ⟨p, q, h1, h2, rfl⟩ := h
    simp only [List.all_cons, Bool.and_eq_true, decide_eq_true_eq] at hr
    refine ⟨p, q, WideElems.Trod_stays hl hr.1.1 hr.1.2 h1 (fun x hx => hb.same (hlt x (by simp [hx]))) (fun x hx => hsp x (by simp [hx])),
      trodAll_below hl hb (by simpa using hr.2) h2 (fun x hx => hlt x (by simp [hx])) sp (fun x hx => hsp x (by simp [hx])), rfl⟩

theorem trodAll_len {w : World} {base : Nat} {spare : Nat → Bool} {held : Bool} : ∀ {ts : List TypeId} {vs : List Value} {ds : List (DataW H)} {ps : List MemPlace}, DataW.TrodAll enc P w base spare held ts vs ds ps → ds.length = ts.length
  | [], [], [], _, _ => rfl
  | [], _ :: _, _, _, h => h.elim
  | [], [], _ :: _, _, h => h.elim
  | _ :: _, [], _, _, h => h.elim
  | _ :: _, _ :: _, [], _, h => h.elim
  | _ :: _, _ :: _, _ :: _, _, h => by
    obtain ⟨p, q, _, h2, _⟩ := h
    simp [trodAll_len h2]

theorem law_post {f : Func} {s : ChangeSpec} {apart fresh handsOn again : Bool} {W W' : World} {args : Array Value} {ds gs : List (DataW H)} {before : List MemPlace} {tb : TypeId}
    (hl : laidOutB P = true) (hrow : (f.params.toList.all fun t => P.readableRec t && decide (t < P.types.size)) = true)
    (hres : f.resultTypes = #[tb]) (htb : P.underlying tb = some .bool) (hvars : s.vars = [])
    (hW : DataW.Whole enc P f.params.toList s.vars apart W args.toList ds gs before)
    (hfn : s.fn H ds = { results := [.lit (.bool true)], args := ds })
    (hb : Below W.heap.size W W') : s.post enc P f apart fresh handsOn again W args (.bool true) W' := by
  have hW0 := hW
  obtain ⟨p, q, hA, hV, rfl, hz, hn⟩ := hW0
  rw [hvars] at hV
  have hg : gs = [] := by cases gs with
    | nil => rfl
    | cons a l => exact hV.elim
  subst hg
  have hq : q = [] := hV
  subst hq
  rw [List.append_nil] at hW
  have hlt : ∀ x ∈ p, x.block < W.heap.size := fun x hx => hW.lt x hx
  have hold : ∀ x ∈ p, (fun b => decide (b < W.heap.size)) x.block = true := fun x hx => by simpa using hlt x hx
  have hrb : ∀ (b : Nat) (sp : Nat → Bool) (hd : Bool), DataW.TrodAll enc P W' b sp hd f.resultTypes.toList ((Value.bool true).resultList f.resultTypes.size) [.lit (.bool true)] [] := by
    intro b sp hd
    rw [hres]
    exact trodAll_mk1 (shut_bool htb true)
  have hargs := trodAll_below (W' := W') hl hb hrow hA hlt
  have hfn' : s.fn H (ds ++ []) = { results := [.lit (.bool true)], args := ds } := by rw [List.append_nil]; exact hfn
  have hvs : ∀ sp : Nat → Bool, DataW.TrodVars enc P W' sp s.vars (s.fn H (ds ++ [])).vars [] := by
    intro sp; rw [hvars, hfn']; rfl
  refine ⟨ds, [], p, [], p, [], hW, by rw [hfn']; exact hrb _ _ _, by rw [hfn']; exact hargs _ hold, hvs _, World.keptBut_mono (fun x hx => ⟨hx, ?_⟩) (hb.frame (· ∈ p)), fun _ => ?_⟩
  · exact Or.inr (Or.inl hx)
  · obtain ⟨_, _, _, _, _, _, hn'⟩ := hW
    have hok : ∀ (j : Nat) (t : TypeId) (r : Value), f.resultTypes[j]? = some t → ((Value.bool true).resultList f.resultTypes.size)[j]? = some r → Value.okWide P W' .any 0 t r := by
      rw [hres]
      exact ok_one (f := { f with resultTypes := #[tb] }) rfl rfl (okWide_bool_mk htb true)
    refine ⟨hok, _, _, ([] ++ p) ++ [], ⟨[] ++ p, [], trodAll_append (hargs _ (fun _ _ => rfl)) (hrb _ _ _), hvs _, rfl, ?_, ?_⟩, ?_⟩
    · intro b off hp
      have hin : MemPlace.cell b off ∈ p := by simpa using hp
      rw [hb.frozen (hlt _ hin)]
      exact hz b off (by simpa using hin)
    · intro ha
      simpa using hn ha
    · intro x hx _
      simpa using hx
end

theorem law_lifted {C : Checked} {os : Os} {f : FuncId} {fn : Func} {s : ChangeSpec} {apart fresh handsOn again : Bool} {H : Type} {enc : TypeId × Value → H} {tb : TypeId}
    (own : ownKnob C.prog.godebug = none) (started : os.Started) (noInit : C.prog.inits.idxOf? f = none) (hfn : C.prog.funcs[f]? = some fn)
    (hl : laidOutB C.prog = true) (hrow : (fn.params.toList.all fun t => C.prog.readableRec t && decide (t < C.prog.types.size)) = true)
    (hres : fn.resultTypes = #[tb]) (htb : C.prog.underlying tb = some .bool) (hvars : s.vars = [])
    (witness : ∃ (w : World) (tape : Tape) (i : Input), w.os = os ∧ (w.forCall tape i).Shaped C.prog ∧ i.vars = [] ∧ Input.okWide C.prog (w.forCall tape i) .any w.heap.size f i ∧
      s.pre6 enc C.prog fn [] apart (w.forCall tape i).memory i.args ∧ ({} : Assume).holds C.prog (lone (Frame.enter C.prog f i.args .normal) [] (w.forCall tape i)))
    (spec : ∀ ds : List (DataW H), ds.length = fn.params.size → s.fn H ds = { results := [.lit (.bool true)], args := ds })
    (run : ∀ (W : World) (base : Nat) (args : Array Value) (ds : List (DataW H)) (ps : List MemPlace),
      (∀ (j : Nat) t v, fn.params[j]? = some t → args[j]? = some v → Value.okWide C.prog W .any base t v) →
      DataW.TrodAll enc C.prog W 0 (fun _ => true) true fn.params.toList args.toList ds ps → (∀ p ∈ ps, p.block < W.heap.size) →
      Calls C.prog f args W fun e W' => e = .returned (.bool true) ∧ Below W.heap.size W W') :
    ReturnsInHanded {} C os f .any (s.pre6 enc C.prog fn [] apart) (s.post enc C.prog fn apart fresh handsOn again) := by
  refine returnsInHanded_of_change own started noInit hfn witness ?_
  intro W base args ds gs before hval hW _ _
  have hW0 := hW
  obtain ⟨p, q, hA, hV, rfl, hz, hn⟩ := hW0
  refine (run W base args ds p hval hA (fun x hx => hW.lt x (by simp [hx]))).mono fun e W' ⟨he, hb⟩ => ?_
  have hlen : ds.length = fn.params.size := by
    have := trodAll_len hA
    simpa using this
  exact ⟨_, he, law_post hl hrow hres htb hvars hW (spec ds hlen) hb⟩
end Go.Proofs.Ytdpojcgeblbfeaa

/- Two closed facts of the translated program. -/
namespace Go.Proofs.Ytdpojcgeblbfeaa
theorem Try.own : ownKnob Try.prog.godebug = none := by kernel_rfl
theorem Try.laidOut : laidOutB Try.prog = true := by kernel_rfl
theorem int_wf {n : Int} (h : (Lit.int .i64 n).wf = true) : -9223372036854775808 ≤ n ∧ n ≤ 9223372036854775807 := by
  simp only [Lit.wf, Bool.and_eq_true, decide_eq_true_eq] at h
  exact h
end Go.Proofs.Ytdpojcgeblbfeaa

/- Contracts of the laws' helpers on edges and graphs: sizes, copies, comparisons. -/
namespace Go.Proofs.Ytdpojcgeblbfeaa
open Go.RowKit

theorem below_drewN {B : Nat} {a w : World} (h : Below B a w) (n : Nat) : Below B a (w.drewN n) := ⟨h.os, h.tape, h.output, h.size, h.block⟩
theorem bcell {W w1 : World} (hb : Below W.heap.size W w1) : (∀ b o, b < W.heap.size → w1.cell? ⟨b, o, none⟩ = W.cell? ⟨b, o, none⟩) ∧ (∀ b o, b < W.heap.size → w1.frozen? ⟨b, o, none⟩ = W.frozen? ⟨b, o, none⟩) :=
  ⟨fun b o h => hb.cell (p := ⟨b, o, none⟩) h, fun b o h => hb.frozen (p := ⟨b, o, none⟩) h⟩
theorem ret_boolE {a b : Bool} (h : a = b) : Ending.returned (.bool a) = .returned (.bool b) := by rw [h]
theorem ret_intE {k : IntKind} {a b : Int} (h : a = b) : Ending.returned (.int k a) = .returned (.int k b) := by rw [h]

set_option maxHeartbeats 400000 in
theorem toEdge_any (a b : Int) (w : World) :
    Calls Try.prog 125 #[.agg #[.int .i64 a, .int .i64 b]] w fun e w' => e = .returned (.agg #[.int .i64 a, .int .i64 b]) ∧ Below w.heap.size w w' := by
  go_enter Try.func125, Try.ntmps125
  go_wp2
  exact bodyPost_ret (v := .agg #[.int .i64 a, .int .i64 b]) (by simp [results, Try.results125, go_sem]) rfl ⟨rfl, (((Below.refl _ _).alloc (Nat.le_refl _) _).alloc (by simp) _).alloc (by simp; omega) _⟩

set_option maxHeartbeats 400000 in
theorem szEdgeS_any (A : Option Addr) (n c : Nat) (left : Int) (w : World) (hn : n ≤ 9223372036854775807) (h0 : 0 ≤ left) (h1 : left ≤ 1048576) :
    Calls Try.prog 66 #[.slice A n c, .int .i64 left] w fun e w' => e = .returned (.int .i64 (if left < n then -1 else left - n)) ∧ w = w' := by
  by_cases h : left < n
  · rw [if_pos h]
    go_enter Try.func66, Try.ntmps66
    go_wp2
    go_ret
    exact ⟨rfl, rfl⟩
  · rw [if_neg h]
    go_enter Try.func66, Try.ntmps66
    go_wp2
    go_ret
    exact ⟨rfl, rfl⟩

def eqE (a b c d : Int) : Bool := decide (a = c) && decide (b = d)
set_option maxHeartbeats 400000 in
theorem eqEdge_any (a b c d : Int) (w : World) :
    Calls Try.prog 127 #[.agg #[.int .i64 a, .int .i64 b], .agg #[.int .i64 c, .int .i64 d]] w fun e w' => e = .returned (.bool (eqE a b c d)) ∧ Below w.heap.size w w' := by
  by_cases h : a = c
  · by_cases h2 : b = d
    · have H : eqE a b c d = true := by simp [eqE, h, h2]
      rw [H]
      have e1 : (a != c) = false := by simp [h]
      have e2 : (b != d) = false := by simp [h2]
      clear h h2 H
      go_enter Try.func127, Try.ntmps127
      go_wp2
      go_ret
      exact ⟨rfl, ((Below.refl _ _).alloc (Nat.le_refl _) _).alloc (by simp) _⟩
    · have H : eqE a b c d = false := by simp [eqE, h2]
      rw [H]
      have e1 : (a != c) = false := by simp [h]
      have e2 : (b != d) = true := by simp [h2]
      clear h h2 H
      go_enter Try.func127, Try.ntmps127
      go_wp2
      go_ret
      exact ⟨rfl, ((Below.refl _ _).alloc (Nat.le_refl _) _).alloc (by simp) _⟩
  · have H : eqE a b c d = false := by simp [eqE, h]
    rw [H]
    have e1 : (a != c) = true := by simp [h]
    clear h H
    go_enter Try.func127, Try.ntmps127
    go_wp2
    go_ret
    exact ⟨rfl, ((Below.refl _ _).alloc (Nat.le_refl _) _).alloc (by simp) _⟩

def EdgeS (w : World) (B : Nat) (A : Option Addr) (es : List (Int × Int)) : Prop :=
  0 < es.length → ∃ b off : Nat, A = some ⟨b, off, none⟩ ∧ b < B ∧ ∀ i e, es[i]? = some e → w.cell? ⟨b, off + i * 2, none⟩ = some (.int .i64 e.1) ∧ w.cell? ⟨b, off + i * 2 + 1, none⟩ = some (.int .i64 e.2)
theorem EdgeS.keep {w w' : World} {B B' : Nat} {A : Option Addr} {es : List (Int × Int)} (h : EdgeS w B A es) (hk : ∀ p : Addr, p.block < B → w'.cell? p = w.cell? p) (hB : B ≤ B') : EdgeS w' B' A es :=
  fun hn => by
    obtain ⟨b, off, e, hb, hc⟩ := h hn
    exact ⟨b, off, e, by omega, fun i x hx => ⟨(hk _ hb).trans (hc i x hx).1, (hk _ hb).trans (hc i x hx).2⟩⟩
theorem EdgeS.below {w w' : World} {B : Nat} {A : Option Addr} {es : List (Int × Int)} (h : EdgeS w B A es) (hb : Below B w w') : EdgeS w' B A es := h.keep (fun _ hp => hb.cell hp) (Nat.le_refl _)
theorem EdgeS.up {w w' : World} {B B' : Nat} {A : Option Addr} {es : List (Int × Int)} (h : EdgeS w B A es) (hb : Below B w w') (hB : B ≤ B') : EdgeS w' B' A es := h.keep (fun _ hp => hb.cell hp) hB
theorem EdgeS.at_ {w : World} {B : Nat} {A : Option Addr} {es : List (Int × Int)} (h : EdgeS w B A es) {k : Nat} (hk : k < es.length) :
    ∃ (b off : Nat) (e : Int × Int), A = some ⟨b, off, none⟩ ∧ b < B ∧ es[k]? = some e ∧ w.cell? ⟨b, off + k * 2, none⟩ = some (.int .i64 e.1) ∧ w.cell? ⟨b, off + k * 2 + 1, none⟩ = some (.int .i64 e.2) := by
  obtain ⟨b, off, e, hb, hc⟩ := h (by omega)
  exact ⟨b, off, es[k], e, hb, List.getElem?_eq_getElem hk, hc k _ (List.getElem?_eq_getElem hk)⟩

theorem keep4 {w W w2 : World} {p q r s : Addr} {a b c d : Value} (hS : W.cell? p = some a ∧ W.cell? q = some b ∧ W.cell? r = some c ∧ W.cell? s = some d ∧ Below w.heap.size w W) (hb : Below W.heap.size W w2)
    (hp : p.block < w.heap.size) (hq : q.block < w.heap.size) (hr : r.block < w.heap.size) (hs : s.block < w.heap.size) :
    w2.cell? p = some a ∧ w2.cell? q = some b ∧ w2.cell? r = some c ∧ w2.cell? s = some d ∧ Below w.heap.size w w2 := by
  obtain ⟨h1, h2, h3, h4, h5⟩ := hS
  have hz := h5.size
  exact ⟨(hb.cell (by omega)).trans h1, (hb.cell (by omega)).trans h2, (hb.cell (by omega)).trans h3, (hb.cell (by omega)).trans h4, h5.trans (hb.mono hz)⟩
theorem eqE_true {e f : Int × Int} (h : eqE e.1 e.2 f.1 f.2 = true) : e = f := by
  simp only [eqE, Bool.and_eq_true, decide_eq_true_eq] at h
  exact Prod.ext h.1 h.2
theorem eqE_false {e f : Int × Int} (h : eqE e.1 e.2 f.1 f.2 = false) : e ≠ f := by
  rintro rfl
  simp [eqE] at h
theorem take_same {α : Type} {es fs : List α} {k : Nat} {e : α} (ht : es.take k = fs.take k) (he : es[k]? = some e) (hf : fs[k]? = some e) : es.take (k + 1) = fs.take (k + 1) := by
  rw [List.take_add_one, List.take_add_one, ht, he, hf]
theorem take_differ {α : Type} [DecidableEq α] {es fs : List α} {k : Nat} {e f : α} (he : es[k]? = some e) (hf : fs[k]? = some f) (hne : e ≠ f) : decide (es = fs) = false := by
  rw [decide_eq_false_iff_not]
  rintro rfl
  rw [he] at hf
  injection hf with hf
  exact hne hf
theorem take_all_same {α : Type} [DecidableEq α] {es fs : List α} {k : Nat} (ht : es.take k = fs.take k) (h1 : es.length ≤ k) (h2 : fs.length ≤ k) : decide (es = fs) = true := by
  rw [List.take_of_length_le h1, List.take_of_length_le h2] at ht
  exact decide_eq_true ht

set_option maxHeartbeats 400000 in
theorem eqEdgeS_any (A C : Option Addr) (ca cc : Nat) (es fs : List (Int × Int)) (w : World) (hn : es.length ≤ 9223372036854775807) (hm : fs.length ≤ 9223372036854775807)
    (h1 : EdgeS w w.heap.size A es) (h2 : EdgeS w w.heap.size C fs) :
    Calls Try.prog 77 #[.slice A es.length ca, .slice C fs.length cc] w fun e w' => e = .returned (.bool (decide (es = fs))) ∧ Below w.heap.size w w' := by
  by_cases hl : es.length = fs.length
  · have H1 := Lib.hid h1
    have H2 := Lib.hid h2
    clear h1 h2
    have hl2 : ((es.length : Int) != (fs.length : Int)) = false := by simp [hl]
    have hl3 : es.length ≤ fs.length := by omega
    have hl4 : fs.length ≤ es.length := by omega
    clear hl
    go_enter Try.func77, Try.ntmps77
    go_wp2
    go_loopw [5] (fun i wr => ∃ k : Nat, k ≤ es.length ∧ i = .int .i64 k ∧ es.take k = fs.take k ∧ Below w.heap.size w wr) (fun i _ => es.length - (intOf i).toNat)
    case atStart => exact ⟨0, Nat.zero_le _, rfl, rfl, Below.refl _ _⟩
    case round =>
      obtain ⟨k, hk, rfl, ht, hb⟩ := hrel
      have HT := Lib.hid ht
      clear ht
      by_cases hlt : k < es.length
      · obtain ⟨b1, o1, e, rfl, hb1, he, hc0, hc1⟩ := (H1.out.below hb).at_ hlt
        obtain ⟨b2, o2, f, rfl, hb2, hf, hd0, hd1⟩ := (H2.out.below hb).at_ (k := k) (by omega)
        have HE := Lib.hid he
        have HF := Lib.hid hf
        clear he hf
        have hi0 : (0 : Int) ≤ (k : Int) := Int.natCast_nonneg _
        have hi1 : (k : Int) < (es.length : Int) := by omega
        have hi2 : (k : Int) < (fs.length : Int) := by omega
        go_wp2
        go_region_held3 (fun w' => w'.cell? ⟨b1, o1 + k * 2, none⟩ = some (.int .i64 e.1) ∧ w'.cell? ⟨b1, o1 + k * 2 + 1, none⟩ = some (.int .i64 e.2) ∧ w'.cell? ⟨b2, o2 + k * 2, none⟩ = some (.int .i64 f.1) ∧ w'.cell? ⟨b2, o2 + k * 2 + 1, none⟩ = some (.int .i64 f.2) ∧ Below w.heap.size w w')
          (first
            | exact ⟨hc0, hc1, hd0, hd1, hb.drew⟩
            | exact keep4 (by assumption) hb3 hb1 hb1 hb2 hb2)
          (first | (go_at_call 127; refine (eqEdge_any _ _ _ _ _).mono ?_; rintro e2 w2 ⟨rfl, hb3⟩))
        go_wp2
        · have hE : (!eqE e.1 e.2 f.1 f.2) = true := by assumption
          rw [Bool.not_eq_true'] at hE
          have HQ := Lib.hid (take_differ HE.out HF.out (eqE_false hE))
          go_ret
          exact ⟨ret_boolE HQ.out.symm, hb.drew.trans (hb3.mono hb.size)⟩
        · have hE : (!eqE e.1 e.2 f.1 f.2) = false := by assumption
          rw [Bool.not_eq_false'] at hE
          exact ⟨⟨k + 1, by omega, by go_num, take_same HT.out HE.out (by rw [eqE_true hE]; exact HF.out), hb.drew.trans (hb3.mono hb.size)⟩, by simp [intOf]; omega⟩
      · have HA := Lib.hid (take_all_same HT.out (by omega) (by omega))
        go_wp2
        go_ret
        exact ⟨ret_boolE HA.out.symm, hb⟩
  · have hl2 : ((es.length : Int) != (fs.length : Int)) = true := by simp; omega
    have HD := Lib.hid (show decide (es = fs) = false by rw [decide_eq_false_iff_not]; rintro rfl; exact hl rfl)
    clear hl
    go_enter Try.func77, Try.ntmps77
    go_wp2
    go_ret
    exact ⟨ret_boolE HD.out.symm, Below.refl _ _⟩
end Go.Proofs.Ytdpojcgeblbfeaa

/- The laws' copies of a slice of edges and of a graph. -/
namespace Go.Proofs.Ytdpojcgeblbfeaa
open Go.RowKit

def Blk (w : World) (g : Nat) (t : TypeId) (cs : Array Value) : Prop := w.heap[g]? = some (.cells cs t (0, 0))
section
variable {w w' : World} {g : Nat} {t : TypeId} {cs : Array Value}
theorem Blk.lt (h : Blk w g t cs) : g < w.heap.size := by
  rcases Nat.lt_or_ge g w.heap.size with hlt | hge
  · exact hlt
  · unfold Blk at h; rw [Array.getElem?_eq_none hge] at h; cases h
theorem Blk.cell (h : Blk w g t cs) (i : Nat) : w.cell? ⟨g, i, none⟩ = cs[i]? := cell_of_row w g i cs t (0, 0) h
theorem Blk.frozen (h : Blk w g t cs) (i : Nat) : w.frozen? ⟨g, i, none⟩ = false := by
  unfold Blk at h
  simp [World.frozen?, h]
theorem Blk.new (w : World) (t : TypeId) (cs : Array Value) : Blk (w.alloc (.cells cs t)) w.heap.size t cs := heap_alloc_new w _
theorem Blk.drew (h : Blk w g t cs) : Blk w.drew g t cs := h
theorem Blk.drewN (h : Blk w g t cs) (n : Nat) : Blk (w.drewN n) g t cs := h
theorem Blk.alloc (h : Blk w g t cs) (o : Obj) : Blk (w.alloc o) g t cs := (Below.heap_alloc w o g h.lt).trans h
theorem Blk.set_ (h : Blk w g t cs) (i : Nat) (u : Value) : Blk (w.setCell ⟨g, i, none⟩ u) g t (cs.setIfInBounds i u) := by
  unfold Blk at h ⊢
  simp [World.setCell, Array.getElem?_modify, h]
theorem Blk.far (h : Blk w g t cs) {p : Addr} (hp : g ≠ p.block) (u : Value) : Blk (w.setCell p u) g t cs := (Below.heap_setCell w p u g hp).trans h
theorem Blk.below {B : Nat} (h : Blk w g t cs) (hb : Below B w w') (hg : g < B) : Blk w' g t cs := (hb.block g hg).trans h
end

def flat : List (Int × Int) → List Value
  | [] => []
  | e :: l => .int .i64 e.1 :: .int .i64 e.2 :: flat l
theorem flat_length : ∀ l : List (Int × Int), (flat l).length = l.length * 2
  | [] => rfl
  | _ :: l => by simp only [flat, List.length_cons, flat_length l]; omega
theorem flat_at : ∀ (l : List (Int × Int)) (i : Nat) (e : Int × Int), l[i]? = some e → (flat l)[i * 2]? = some (.int .i64 e.1) ∧ (flat l)[i * 2 + 1]? = some (.int .i64 e.2)
  | a :: l, 0, e, h => by
    simp only [List.getElem?_cons_zero, Option.some.injEq] at h
    subst h
    exact ⟨rfl, rfl⟩
  | a :: l, i + 1, e, h => by
    rw [List.getElem?_cons_succ] at h
    have := flat_at l i e h
    simpa [flat, Nat.add_mul] using this
theorem flat_set : ∀ (l : List (Int × Int)) (i : Nat) (e : Int × Int), i < l.length → ((flat l).set (i * 2) (.int .i64 e.1)).set (i * 2 + 1) (.int .i64 e.2) = flat (l.set i e)
  | a :: l, 0, e, _ => rfl
  | a :: l, i + 1, e, h => by
    have := flat_set l i e (by simpa using h)
    simp only [flat, List.set_cons_succ, Nat.add_mul, Nat.one_mul]
    rw [this]
def part (es : List (Int × Int)) (k : Nat) : List (Int × Int) := es.take k ++ List.replicate (es.length - k) (0, 0)
theorem part_length (es : List (Int × Int)) (k : Nat) (h : k ≤ es.length) : (part es k).length = es.length := by simp [part]; omega
theorem part_all (es : List (Int × Int)) : part es es.length = es := by simp [part]
theorem part_set (es : List (Int × Int)) (k : Nat) (e : Int × Int) (h : es[k]? = some e) : (part es k).set k e = part es (k + 1) := by
  have hk : k < es.length := (List.getElem?_eq_some_iff.1 h).1
  unfold part
  rw [List.take_add_one, h, List.set_append_right _ _ (by simp; omega)]
  have : es.length - k = (es.length - (k + 1)) + 1 := by omega
  rw [this, List.replicate_succ]
  simp [Nat.min_eq_left (Nat.le_of_lt hk)]
theorem part_at (es : List (Int × Int)) (k : Nat) (h : k < es.length) : (part es k)[k]? = some (0, 0) := by
  unfold part
  have hl : (es.take k).length = k := by simp; omega
  rw [List.getElem?_append_right (by omega), hl, Nat.sub_self]
  have : es.length - k = (es.length - (k + 1)) + 1 := by omega
  rw [this, List.replicate_succ]
  rfl
theorem blk_part {w : World} {g : Nat} {t : TypeId} {es : List (Int × Int)} {k : Nat} {e : Int × Int} (h : Blk w g t (flat (part es k)).toArray) (he : es[k]? = some e) :
    Blk ((w.setCell ⟨g, k * 2, none⟩ (.int .i64 e.1)).setCell ⟨g, k * 2 + 1, none⟩ (.int .i64 e.2)) g t (flat (part es (k + 1))).toArray := by
  have hk : k < es.length := (List.getElem?_eq_some_iff.1 he).1
  have h2 := (h.set_ (k * 2) (.int .i64 e.1)).set_ (k * 2 + 1) (.int .i64 e.2)
  rw [List.setIfInBounds_toArray, List.setIfInBounds_toArray, flat_set _ _ _ (by rw [part_length _ _ (by omega)]; exact hk), part_set _ _ _ he] at h2
  exact h2
theorem EdgeS.of_blk {w : World} {g B : Nat} {t : TypeId} {es : List (Int × Int)} (h : Blk w g t (flat es).toArray) (hg : g < B) : EdgeS w B (some ⟨g, 0, none⟩) es := fun _ =>
  ⟨g, 0, rfl, hg, fun i e he => by
    have := flat_at es i e he
    rw [h.cell, h.cell]
    simpa using this⟩

theorem edgeInfo : (Try.prog.info? 121).map (fun i => (i.zero, i.size, i.bytes)) = some (some (.agg #[.int .i64 0, .int .i64 0]), 2, 16) := by kernel_rfl

theorem flat_zeros : ∀ n : Nat, flat (List.replicate n (0, 0)) = List.replicate (n * 2) (.int .i64 0)
  | 0 => rfl
  | n + 1 => by rw [List.replicate_succ, flat, flat_zeros n, Nat.add_mul, Nat.one_mul, List.replicate_succ, List.replicate_succ]
theorem made_flat (n : Nat) : madeCells (Value.agg #[.int .i64 0, .int .i64 0]).cells (n * 2) = (flat (List.replicate n (0, 0))).toArray := by
  rw [flat_zeros]
  apply Array.ext
  · simp [madeCells]
  · intro i h1 h2
    simp only [madeCells, Array.getElem_map, Array.getElem_range, List.getElem_toArray, List.getElem_replicate]
    show (#[Value.int .i64 0, Value.int .i64 0] : Array Value)[i % 2]! = _
    rcases Nat.mod_two_eq_zero_or_one i with h | h <;> rw [h] <;> rfl
theorem make_edges (n : Nat) (hn : n ≤ 1048576) (w : World) : (Instr.makeSlice 23 (.int .i64 (n : Int)) (.int .i64 (n : Int))).run Try.prog w =
    .ok (.slice (some ⟨w.heap.size, 0, none⟩) n n) (w.alloc (.cells (flat (List.replicate n (0, 0))).toArray 121)) := by
  obtain ⟨i0, hi, hz0, hz1, hz2⟩ := info_parts edgeInfo
  have hr := run_make (P := Try.prog) w 23 121 i0 _ Try.underlying23 hi hz0 .i64 .i64 n n (by omega) (by omega) (by rw [hz2]; omega) (by omega)
  rw [hz1] at hr
  simp only [Int.toNat_natCast] at hr
  rw [made_flat] at hr
  exact hr
def MadeEdges (w : World) (es : List (Int × Int)) (e : Ending) (w' : World) : Prop :=
  e = .returned (.slice (some ⟨w.heap.size, 0, none⟩) es.length es.length) ∧ Blk w' w.heap.size 121 (flat es).toArray ∧ Below w.heap.size w w'

set_option maxHeartbeats 400000 in
theorem toEdgeS_any (A : Option Addr) (c : Nat) (es : List (Int × Int)) (w : World) (hn : es.length ≤ 1048576) (hE : EdgeS w w.heap.size A es) :
    Calls Try.prog 73 #[.slice A es.length c] w (MadeEdges w es) := by
  have hmk := make_edges es.length hn
  have HE := Lib.hid hE
  clear hE
  go_enter Try.func73, Try.ntmps73
  go_wp2
  go_loopw [4] (fun i wr => ∃ k : Nat, k ≤ es.length ∧ i = .int .i64 k ∧ Blk wr w.heap.size 121 (flat (part es k)).toArray ∧ Below w.heap.size w wr) (fun i _ => es.length - (intOf i).toNat)
  case atStart => exact ⟨0, Nat.zero_le _, rfl, Blk.new w _ _, (Below.refl _ _).alloc (Nat.le_refl _) _⟩
  case round =>
    obtain ⟨k, hk, rfl, hblk, hb⟩ := hrel
    have HB := Lib.hid hblk
    have hlt0 := hblk.lt
    clear hblk hmk
    by_cases hlt : k < es.length
    · obtain ⟨b1, o1, e, rfl, hb1, he, hc0, hc1⟩ := (HE.out.below hb).at_ hlt
      have HX := Lib.hid he
      clear he
      have hi0 : (0 : Int) ≤ (k : Int) := Int.natCast_nonneg _
      have hi1 : (k : Int) < (es.length : Int) := by omega
      go_wp2_with fail
      refine (toEdge_any _ _ _).mono ?_
      rintro e2 w2 ⟨rfl, hb3⟩
      have hblk2 := HB.out.below hb3 hlt0
      have hat := flat_at _ _ _ (part_at es k hlt)
      have hf0 := hblk2.frozen (k * 2)
      have hf1 := hblk2.frozen (k * 2 + 1)
      have hcl0 : w2.cell? ⟨w.heap.size, k * 2, none⟩ = some (.int .i64 0) := by rw [hblk2.cell]; simpa using hat.1
      have hcl1 : w2.cell? ⟨w.heap.size, k * 2 + 1, none⟩ = some (.int .i64 0) := by rw [hblk2.cell]; simpa using hat.2
      have HB2 := Lib.hid hblk2
      clear hblk2 hat
      go_wp2
      exact ⟨⟨k + 1, by omega, by go_num, blk_part HB2.out HX.out, ((hb.trans (hb3.mono hb.size)).setCell (Nat.le_refl _) _).setCell (Nat.le_refl _) _⟩, by simp [intOf]; omega⟩
    · have HB2 := HB.out
      rw [show k = es.length by omega, part_all] at HB2
      have HB3 := Lib.hid HB2
      clear HB2
      go_wp2
      go_ret
      exact ⟨rfl, HB3.out, hb⟩

set_option maxHeartbeats 400000 in
theorem szGraph_any (N : Int) (A : Option Addr) (n c : Nat) (left : Int) (w : World) (hn : n ≤ 9223372036854775807) (h0 : 0 ≤ left) (h1 : left ≤ 1048576) :
    Calls Try.prog 22 #[.agg #[.int .i64 N, .slice A n c], .int .i64 left] w fun e w' => e = .returned (.int .i64 (if left < n then -1 else left - n)) ∧ Below w.heap.size w w' := by
  by_cases h : left < n
  · rw [if_pos h]
    have hc := szEdgeS_any A n c left
    rw [if_pos h] at hc
    have HC := fun w => Lib.hid (hc w hn h0 h1)
    clear hc
    go_enter Try.func22, Try.ntmps22
    go_wp2_with (go_at_call 66; refine (HC _).out.mono ?_; rintro e w' ⟨rfl, rfl⟩)
    go_ret
    exact ⟨rfl, (Below.refl _ _).alloc (Nat.le_refl _) _⟩
  · rw [if_neg h]
    have hc := szEdgeS_any A n c left
    rw [if_neg h] at hc
    have HC := fun w => Lib.hid (hc w hn h0 h1)
    clear hc
    go_enter Try.func22, Try.ntmps22
    go_wp2_with (go_at_call 66; refine (HC _).out.mono ?_; rintro e w' ⟨rfl, rfl⟩)
    go_ret
    exact ⟨rfl, (Below.refl _ _).alloc (Nat.le_refl _) _⟩

theorem szGraph_big (N : Int) (A : Option Addr) (n c : Nat) (left : Int) (w : World) (hn : n ≤ 9223372036854775807) (h0 : 0 ≤ left) (h1 : left ≤ 1048576) (h : left < n) :
    Calls Try.prog 22 #[.agg #[.int .i64 N, .slice A n c], .int .i64 left] w fun e w' => e = .returned (.int .i64 (-1)) ∧ Below w.heap.size w w' := by
  have := szGraph_any N A n c left w hn h0 h1
  rwa [if_pos h] at this
theorem szGraph_ok (N : Int) (A : Option Addr) (n c : Nat) (left : Int) (w : World) (h1 : left ≤ 1048576) (h : (n : Int) ≤ left) :
    Calls Try.prog 22 #[.agg #[.int .i64 N, .slice A n c], .int .i64 left] w fun e w' => e = .returned (.int .i64 (left - n)) ∧ Below w.heap.size w w' := by
  have := szGraph_any N A n c left w (by omega) (by omega) h1
  rwa [if_neg (by omega)] at this

def MadeGraph (w : World) (N : Int) (es : List (Int × Int)) (e : Ending) (w' : World) : Prop :=
  ∃ g : Nat, e = .returned (.agg #[.int .i64 N, .slice (some ⟨g, 0, none⟩) es.length es.length]) ∧ w.heap.size ≤ g ∧ Blk w' g 121 (flat es).toArray ∧ Below w.heap.size w w'
theorem EdgeS.up_ {w w' : World} {A : Option Addr} {es : List (Int × Int)} (h : EdgeS w w.heap.size A es) (hb : Below w.heap.size w w') : EdgeS w' w'.heap.size A es := h.up hb hb.size

set_option maxHeartbeats 400000 in
theorem toGraph_any (N : Int) (A : Option Addr) (c : Nat) (es : List (Int × Int)) (w : World) (hn : es.length ≤ 1048576) (hE : EdgeS w w.heap.size A es) :
    Calls Try.prog 24 #[.agg #[.int .i64 N, .slice A es.length c]] w (MadeGraph w N es) := by
  have HE := Lib.hid hE
  clear hE
  go_enter Try.func24, Try.ntmps24
  go_wp2_with fail
  have hb0 : Below w.heap.size w (((w.alloc (Obj.cells #[.int .i64 N, .slice A es.length c] 39)).alloc (Obj.cells #[.int .i64 0, .slice none 0 0] 25)).alloc (Obj.cells #[.int .i64 N, .slice none 0 0] 25)) :=
    (((Below.refl _ _).alloc (Nat.le_refl _) _).alloc (by simp) _).alloc (by simp; omega) _
  refine (toEdgeS_any _ _ _ _ hn (HE.out.up_ hb0)).mono ?_
  rintro e w1 ⟨rfl, hblk, hb⟩
  obtain ⟨hc, hf⟩ := bcell hb
  have HB := Lib.hid hblk
  clear hblk
  go_wp2
  have hbw : Below w.heap.size w w1 := hb0.trans (hb.mono hb0.size)
  refine bodyPost_ret (v := .agg #[.int .i64 N, .slice (some ⟨w.heap.size + 1 + 1 + 1, 0, none⟩) es.length es.length]) (by simp [results, Try.results24, go_sem, hc]) rfl ⟨w.heap.size + 1 + 1 + 1, rfl, by omega, ?_, ?_⟩
  · have h1 := HB.out
    simp only [World.size_alloc] at h1
    exact ((h1.far (by simp) _).far (by simp; omega) _).far (by simp; omega) _
  · exact ((hbw.setCell (by simp; omega) _).setCell (by simp) _).setCell (by simp) _

def eqG (N M : Int) (es fs : List (Int × Int)) : Bool := decide (N = M) && decide (es = fs)
set_option maxHeartbeats 400000 in
theorem eqGraph_any (N M : Int) (A C : Option Addr) (ca cc : Nat) (es fs : List (Int × Int)) (w : World) (hn : es.length ≤ 9223372036854775807) (hm : fs.length ≤ 9223372036854775807)
    (h1 : EdgeS w w.heap.size A es) (h2 : EdgeS w w.heap.size C fs) :
    Calls Try.prog 27 #[.agg #[.int .i64 N, .slice A es.length ca], .agg #[.int .i64 M, .slice C fs.length cc]] w fun e w' => e = .returned (.bool (eqG N M es fs)) ∧ Below w.heap.size w w' := by
  have H1 := Lib.hid h1
  have H2 := Lib.hid h2
  clear h1 h2
  have hb0 : Below w.heap.size w ((w.alloc (Obj.cells #[.int .i64 N, .slice A es.length ca] 25)).alloc (Obj.cells #[.int .i64 M, .slice C fs.length cc] 25)) :=
    ((Below.refl _ _).alloc (Nat.le_refl _) _).alloc (by simp) _
  by_cases h : N = M
  · have e1 : (N != M) = false := by simp [h]
    have H : eqG N M es fs = decide (es = fs) := by simp [eqG, h]
    rw [H]
    clear h H
    by_cases hE : es = fs
    · have hc := eqEdgeS_any A C ca cc es fs
      rw [decide_eq_true hE] at hc ⊢
      have HC := fun w h3 h4 => Lib.hid (hc w hn hm h3 h4)
      clear hc hE
      go_enter Try.func27, Try.ntmps27
      go_wp2_with (go_at_call 77; refine (HC _ (H1.out.up_ hb0) (H2.out.up_ hb0)).out.mono ?_; rintro e w1 ⟨rfl, hb⟩)
      go_ret
      exact ⟨rfl, hb0.trans (hb.mono hb0.size)⟩
    · have hc := eqEdgeS_any A C ca cc es fs
      rw [decide_eq_false hE] at hc ⊢
      have HC := fun w h3 h4 => Lib.hid (hc w hn hm h3 h4)
      clear hc hE
      go_enter Try.func27, Try.ntmps27
      go_wp2_with (go_at_call 77; refine (HC _ (H1.out.up_ hb0) (H2.out.up_ hb0)).out.mono ?_; rintro e w1 ⟨rfl, hb⟩)
      go_ret
      exact ⟨rfl, hb0.trans (hb.mono hb0.size)⟩
  · have e1 : (N != M) = true := by simp [h]
    have H : eqG N M es fs = false := by simp [eqG, h]
    rw [H]
    clear h H
    go_enter Try.func27, Try.ntmps27
    go_wp2
    go_ret
    exact ⟨rfl, hb0⟩
theorem eqG_self (N : Int) (es : List (Int × Int)) : eqG N N es es = true := by simp [eqG]
end Go.Proofs.Ytdpojcgeblbfeaa

/- Slices of ints: how they read, what a call's own memory holds. -/
namespace Go.Proofs.Ytdpojcgeblbfeaa
open Go.RowKit

def IntS (w : World) (B : Nat) (A : Option Addr) (xs : List Int) : Prop :=
  0 < xs.length → ∃ b off : Nat, A = some ⟨b, off, none⟩ ∧ b < B ∧ ∀ (i : Nat) (x : Int), xs[i]? = some x → w.cell? ⟨b, off + i, none⟩ = some (.int .i64 x)
theorem IntS.keep {w w' : World} {B B' : Nat} {A : Option Addr} {xs : List Int} (h : IntS w B A xs) (hk : ∀ p : Addr, p.block < B → w'.cell? p = w.cell? p) (hB : B ≤ B') : IntS w' B' A xs :=
  fun hn => by
    obtain ⟨b, off, e, hb, hc⟩ := h hn
    exact ⟨b, off, e, by omega, fun i x hx => (hk _ hb).trans (hc i x hx)⟩
theorem IntS.below {w w' : World} {B : Nat} {A : Option Addr} {xs : List Int} (h : IntS w B A xs) (hb : Below B w w') : IntS w' B A xs := h.keep (fun _ hp => hb.cell hp) (Nat.le_refl _)
theorem IntS.up_ {w w' : World} {A : Option Addr} {xs : List Int} (h : IntS w w.heap.size A xs) (hb : Below w.heap.size w w') : IntS w' w'.heap.size A xs := h.keep (fun _ hp => hb.cell hp) hb.size
theorem IntS.at_ {w : World} {B : Nat} {A : Option Addr} {xs : List Int} (h : IntS w B A xs) {k : Nat} (hk : k < xs.length) :
    ∃ (b off : Nat) (x : Int), A = some ⟨b, off, none⟩ ∧ b < B ∧ xs[k]? = some x ∧ w.cell? ⟨b, off + k, none⟩ = some (.int .i64 x) := by
  obtain ⟨b, off, e, hb, hc⟩ := h (by omega)
  exact ⟨b, off, xs[k], e, hb, List.getElem?_eq_getElem hk, hc k _ (List.getElem?_eq_getElem hk)⟩

theorem intInfo : (Try.prog.info? 3).map (fun i => (i.zero, i.size, i.bytes)) = some (some (.int .i64 0), 1, 8) := by kernel_rfl
def intCells (xs : List Int) : List Value := xs.map (Value.int .i64)
theorem made_ints (n : Nat) : madeCells (Value.int .i64 0).cells (n * 1) = (intCells (List.replicate n 0)).toArray := by
  apply Array.ext
  · simp [madeCells, intCells]
  · intro i h1 h2
    simp only [madeCells, intCells, Array.getElem_map, Array.getElem_range, List.getElem_toArray, List.getElem_map, List.getElem_replicate]
    show (#[Value.int .i64 0] : Array Value)[i % 1]! = _
    rw [Nat.mod_one]
    rfl
theorem make_ints (n : Nat) (hn : n ≤ 1048576) (w : World) : (Instr.makeSlice 28 (.int .i64 (n : Int)) (.int .i64 (n : Int))).run Try.prog w =
    .ok (.slice (some ⟨w.heap.size, 0, none⟩) n n) (w.alloc (.cells (intCells (List.replicate n 0)).toArray 3)) := by
  obtain ⟨i0, hi, hz0, hz1, hz2⟩ := info_parts intInfo
  have hr := run_make (P := Try.prog) w 28 3 i0 _ Try.underlying28 hi hz0 .i64 .i64 n n (by omega) (by omega) (by rw [hz2]; omega) (by omega)
  rw [hz1] at hr
  simp only [Int.toNat_natCast] at hr
  rw [made_ints] at hr
  exact hr
theorem IntS.of_blk {w : World} {g B : Nat} {t : TypeId} {xs : List Int} (h : Blk w g t (intCells xs).toArray) (hg : g < B) : IntS w B (some ⟨g, 0, none⟩) xs := fun _ =>
  ⟨g, 0, rfl, hg, fun i x hx => by
    rw [h.cell]
    simp [intCells, hx]⟩
def OwnI (w : World) (base : Nat) (A : Option Addr) (zs : List Int) : Prop :=
  0 < zs.length → ∃ g off : Nat, A = some ⟨g, off, none⟩ ∧ base ≤ g ∧ g < w.heap.size ∧ ∀ (i : Nat) (z : Int), zs[i]? = some z → w.cell? ⟨g, off + i, none⟩ = some (.int .i64 z) ∧ w.frozen? ⟨g, off + i, none⟩ = false
theorem OwnI.ints {w : World} {base : Nat} {A : Option Addr} {zs : List Int} (h : OwnI w base A zs) : IntS w w.heap.size A zs := fun hn => by
  obtain ⟨g, off, e, _, hg, hc⟩ := h hn
  exact ⟨g, off, e, hg, fun i z hz => (hc i z hz).1⟩
theorem OwnI.below {w w' : World} {base : Nat} {A : Option Addr} {zs : List Int} (h : OwnI w base A zs) (hb : Below w.heap.size w w') : OwnI w' base A zs := fun hn => by
  obtain ⟨g, off, e, h1, hg, hc⟩ := h hn
  exact ⟨g, off, e, h1, Nat.lt_of_lt_of_le hg hb.size, fun i z hz => ⟨(hb.cell (p := ⟨g, off + i, none⟩) hg).trans (hc i z hz).1, (hb.frozen (p := ⟨g, off + i, none⟩) hg).trans (hc i z hz).2⟩⟩
theorem OwnI.mono {w : World} {base base' : Nat} {A : Option Addr} {zs : List Int} (h : OwnI w base A zs) (hb : base' ≤ base) : OwnI w base' A zs := fun hn => by
  obtain ⟨g, off, e, h1, hg, hc⟩ := h hn
  exact ⟨g, off, e, by omega, hg, hc⟩
theorem OwnI.of_blk {w : World} {g base : Nat} {t : TypeId} {zs : List Int} (h : Blk w g t (intCells zs).toArray) (hg : base ≤ g) : OwnI w base (some ⟨g, 0, none⟩) zs := fun _ =>
  ⟨g, 0, rfl, hg, h.lt, fun i z hz => ⟨by rw [h.cell]; simp [intCells, hz], h.frozen _⟩⟩
def GivesInts (w : World) (zs : List Int) (e : Ending) (w' : World) : Prop :=
  ∃ (A : Option Addr) (c : Nat), e = .returned (.slice A zs.length c) ∧ OwnI w' w.heap.size A zs ∧ Below w.heap.size w w'
theorem OwnI.nil (w : World) (base : Nat) (A : Option Addr) : OwnI w base A [] := fun h => absurd h (by simp)
theorem OwnI.of_own {w : World} {base n c : Nat} {A : Option Addr} {zs : List Int} (h : w.ownsRow base 3 1 (.slice A n c) n (intCells zs)) : OwnI w base A zs := fun hn => by
  obtain ⟨hl, h⟩ := h
  rcases h with ⟨_, h0⟩ | ⟨g, cap, cur, hv, hb, hh, hnc, _, hcs, htk⟩
  · subst h0
    simp [intCells] at hl
    subst hl
    simp at hn
  · injection hv with hA _ hc
    subst hA
    have hblk : Blk w g 3 cur := hh
    refine ⟨g, 0, rfl, hb, hblk.lt, fun i z hz => ⟨?_, hblk.frozen _⟩⟩
    have hi : i < zs.length := (List.getElem?_eq_some_iff.1 hz).1
    have hln : zs.length = n := by simpa [intCells] using hl
    rw [hblk.cell, Nat.zero_add]
    have : (cur.toList.take (n * 1))[i]? = some (.int .i64 z) := by rw [htk]; simp [intCells, hz]
    rw [List.getElem?_take_of_lt (by omega)] at this
    simpa using this
end Go.Proofs.Ytdpojcgeblbfeaa

/- Slices of ints: what the laws' helpers do with them: copies, comparisons, sizes, marks. -/
namespace Go.Proofs.Ytdpojcgeblbfeaa
open Go.RowKit

set_option maxHeartbeats 400000 in
theorem eqIntS_any (A C : Option Addr) (ca cc : Nat) (xs ys : List Int) (w : World) (hn : xs.length ≤ 9223372036854775807) (hm : ys.length ≤ 9223372036854775807)
    (h1 : IntS w w.heap.size A xs) (h2 : IntS w w.heap.size C ys) :
    Calls Try.prog 34 #[.slice A xs.length ca, .slice C ys.length cc] w fun e w' => e = .returned (.bool (decide (xs = ys))) ∧ Below w.heap.size w w' := by
  by_cases hl : xs.length = ys.length
  · have H1 := Lib.hid h1
    have H2 := Lib.hid h2
    clear h1 h2
    have hl2 : ((xs.length : Int) != (ys.length : Int)) = false := by simp [hl]
    have hl3 : xs.length ≤ ys.length := by omega
    have hl4 : ys.length ≤ xs.length := by omega
    clear hl
    go_enter Try.func34, Try.ntmps34
    go_wp2
    go_loopw [5] (fun i wr => ∃ k : Nat, k ≤ xs.length ∧ i = .int .i64 k ∧ xs.take k = ys.take k ∧ Below w.heap.size w wr) (fun i _ => xs.length - (intOf i).toNat)
    case atStart => exact ⟨0, Nat.zero_le _, rfl, rfl, Below.refl _ _⟩
    case round =>
      obtain ⟨k, hk, rfl, ht, hb⟩ := hrel
      have HT := Lib.hid ht
      clear ht
      by_cases hlt : k < xs.length
      · obtain ⟨b1, o1, x, rfl, hb1, he, hc0⟩ := (H1.out.below hb).at_ hlt
        obtain ⟨b2, o2, y, rfl, hb2, hf, hd0⟩ := (H2.out.below hb).at_ (k := k) (by omega)
        have HE := Lib.hid he
        have HF := Lib.hid hf
        clear he hf
        have hi0 : (0 : Int) ≤ (k : Int) := Int.natCast_nonneg _
        have hi1 : (k : Int) < (xs.length : Int) := by omega
        have hi2 : (k : Int) < (ys.length : Int) := by omega
        go_wp2
        go_region
        go_wp2
        · have hE : (x != y) = true := by assumption
          have HQ := Lib.hid (take_differ HE.out HF.out (by simpa using hE))
          go_ret
          exact ⟨ret_boolE HQ.out.symm, hb.drew⟩
        · have hE : (x != y) = false := by assumption
          have hxy : x = y := by simpa using hE
          exact ⟨⟨k + 1, by omega, by go_num, take_same HT.out HE.out (by rw [hxy]; exact HF.out), hb.drew⟩, by simp [intOf]; omega⟩
      · have HA := Lib.hid (take_all_same HT.out (by omega) (by omega))
        go_wp2
        go_ret
        exact ⟨ret_boolE HA.out.symm, hb⟩
  · have hl2 : ((xs.length : Int) != (ys.length : Int)) = true := by simp; omega
    have HD := Lib.hid (show decide (xs = ys) = false by rw [decide_eq_false_iff_not]; rintro rfl; exact hl rfl)
    clear hl
    go_enter Try.func34, Try.ntmps34
    go_wp2
    go_ret
    exact ⟨ret_boolE HD.out.symm, Below.refl _ _⟩

structure Turned (w w' : World) (A : Option Addr) : Prop where
  os : w'.os = w.os
  tape : w'.tape = w.tape
  output : w'.output = w.output
  size : w'.heap.size = w.heap.size
  block : ∀ i, i < w.heap.size → (∀ off, A ≠ some ⟨i, off, none⟩) → w'.heap[i]? = w.heap[i]?
theorem Turned.below {w w' : World} {A : Option Addr} {base : Nat} {zs : List Int} (h : Turned w w' A) (ho : OwnI w base A zs) (hb : base ≤ w.heap.size) (hn : 0 < zs.length) : Below base w w' :=
  ⟨h.os, h.tape, h.output, by rw [h.size]; exact Nat.le_refl _, fun i hi => h.block i (by omega) fun off he => by
    obtain ⟨g, o2, e2, hg, _, _⟩ := ho hn
    rw [e2] at he
    injection he with he
    injection he with he
    omega⟩
theorem OwnI.elim_ {w w' : World} {A : Option Addr} {base : Nat} {zs : List Int} (ho : OwnI w base A zs) (h : Turned w w' A) (hb : base ≤ w.heap.size) (hn : 0 < zs.length) : Below base w w' := h.below ho hb hn
def iota (k : Int) : Nat → List Int
  | 0 => []
  | n + 1 => k :: iota (k + 1) n
theorem iota_length : ∀ (k : Int) (n : Nat), (iota k n).length = n
  | _, 0 => rfl
  | k, n + 1 => by simp [iota, iota_length (k + 1) n]
theorem iota_at : ∀ (k : Int) (n i : Nat), i < n → (iota k n)[i]? = some (k + i)
  | k, n + 1, 0, _ => by simp [iota]
  | k, n + 1, i + 1, h => by
    rw [iota, List.getElem?_cons_succ, iota_at (k + 1) n i (by omega)]
    congr 1
    omega
def Marked (w wr : World) (g off : Nat) (zs : List Int) (k : Int) (j : Nat) : Prop :=
  Turned w wr (some ⟨g, off, none⟩) ∧ (∀ i, i < zs.length → wr.frozen? ⟨g, off + i, none⟩ = false) ∧ (∀ i, i < zs.length → ∃ u, wr.cell? ⟨g, off + i, none⟩ = some (.int .i64 u)) ∧ ∀ i, i < j → wr.cell? ⟨g, off + i, none⟩ = some (.int .i64 (k + i))
theorem Turned.refl (w : World) (A : Option Addr) : Turned w w A := ⟨rfl, rfl, rfl, rfl, fun _ _ _ => rfl⟩
theorem Turned.trans {a b c : World} {A : Option Addr} (h : Turned a b A) (k : Turned b c A) : Turned a c A :=
  ⟨k.os.trans h.os, k.tape.trans h.tape, k.output.trans h.output, k.size.trans h.size, fun i hi hne => (k.block i (by rw [h.size]; exact hi) hne).trans (h.block i hi hne)⟩
theorem Turned.set_ (w : World) (g off i : Nat) (u : Value) : Turned w (w.setCell ⟨g, i, none⟩ u) (some ⟨g, off, none⟩) :=
  ⟨rfl, rfl, rfl, by simp [World.setCell], fun j _ hne => Below.heap_setCell w ⟨g, i, none⟩ u j (fun e => hne off (by simp only at e; rw [e]))⟩
theorem Marked.step {w wr : World} {g off j : Nat} {zs : List Int} {k : Int} (h : Marked w wr g off zs k j) (hj : j < zs.length) : Marked w (wr.setCell ⟨g, off + j, none⟩ (.int .i64 (k + j))) g off zs k (j + 1) := by
  obtain ⟨h1, h2, h3, h4⟩ := h
  obtain ⟨u, hu⟩ := h3 j hj
  refine ⟨h1.trans (Turned.set_ _ _ _ _ _), fun i hi => ?_, fun i hi => ?_, fun i hi => ?_⟩
  · rw [World.frozen?_setCell]
    exact h2 i hi
  · by_cases e : i = j
    · subst e
      exact ⟨_, World.cell?_setCell_same _ _ _ hu⟩
    · rw [World.cell?_setCell_other _ _ _ _ (by simp only [ne_eq, Addr.mk.injEq]; omega)]
      exact h3 i hi
  · by_cases e : i = j
    · subst e
      exact World.cell?_setCell_same _ _ _ hu
    · rw [World.cell?_setCell_other _ _ _ _ (by simp only [ne_eq, Addr.mk.injEq]; omega)]
      exact h4 i (by omega)
def MarkDone (w : World) (base : Nat) (A : Option Addr) (n : Nat) (k : Int) (e : Ending) (w' : World) : Prop :=
  e = .returned (.int .i64 (k + n)) ∧ OwnI w' base A (iota k n) ∧ Turned w w' A ∧ (base ≤ w.heap.size → Below base w w')
set_option maxHeartbeats 400000 in
theorem markIntS_any (A : Option Addr) (c base : Nat) (zs : List Int) (k : Int) (w : World) (hn : zs.length ≤ 1048576) (h0 : 0 ≤ k) (h1 : k ≤ 1099511627776) (hO : OwnI w base A zs) :
    Calls Try.prog 41 #[.slice A zs.length c, .int .i64 k] w (MarkDone w base A zs.length k) := by
  by_cases hz : 0 < zs.length
  · obtain ⟨g, off, rfl, hg, hlt, hc⟩ := hO hz
    have hm0 : Marked w w g off zs k 0 := ⟨Turned.refl _ _, fun i hi => (hc i _ (List.getElem?_eq_getElem hi)).2, fun i hi => ⟨_, (hc i _ (List.getElem?_eq_getElem hi)).1⟩, fun i hi => absurd hi (by omega)⟩
    have HM := Lib.hid hm0
    have HO := Lib.hid hO
    clear hm0 hc hO
    go_enter Try.func41, Try.ntmps41
    go_wp2
    go_loopw [1, 5] (fun m i wr => ∃ j : Nat, j ≤ zs.length ∧ i = .int .i64 j ∧ m = .int .i64 (k + j) ∧ Marked w wr g off zs k j) (fun _ i _ => zs.length - (intOf i).toNat)
    case atStart => exact ⟨0, Nat.zero_le _, rfl, by simp, HM.out⟩
    case round =>
      obtain ⟨j, hj, rfl, rfl, hm⟩ := hrel
      have HM2 := Lib.hid hm
      clear hm
      by_cases hlt2 : j < zs.length
      · have hi0 : (0 : Int) ≤ (j : Int) := Int.natCast_nonneg _
        have hi1 : (j : Int) < (zs.length : Int) := by omega
        have hf := HM2.out.2.1 j hlt2
        obtain ⟨u, hu⟩ := HM2.out.2.2.1 j hlt2
        go_wp2
        exact ⟨⟨j + 1, by omega, by go_num, by congr 1; omega, HM2.out.step hlt2⟩, by simp [intOf]; omega⟩
      · have hjn : j = zs.length := by omega
        have HJ := Lib.hid hjn
        clear hjn
        go_wp2
        go_ret
        refine ⟨ret_intE (by rw [HJ.out]), ?_, HM2.out.1, fun hbs => HO.out.elim_ HM2.out.1 hbs hz⟩
        obtain ⟨t1, t2, t3, t4⟩ := HM2.out
        intro _
        refine ⟨g, off, rfl, hg, by rw [t1.size]; exact hlt, fun i z hz2 => ?_⟩
        have hil : i < zs.length := by
          have := (List.getElem?_eq_some_iff.1 hz2).1
          rw [iota_length] at this
          exact this
        rw [iota_at _ _ _ hil] at hz2
        injection hz2 with hz2
        subst hz2
        exact ⟨t4 i (by omega), t2 i hil⟩
  · have hz0 : zs.length ≤ 0 := by omega
    have HZ := Lib.hid (show zs.length = 0 by omega)
    go_enter Try.func41, Try.ntmps41
    go_wp2
    go_loop [1, 5] (fun m i => i = .int .i64 0 ∧ m = .int .i64 k) (fun _ _ => 0)
    case atStart => exact ⟨rfl, rfl⟩
    case round =>
      obtain ⟨rfl, rfl⟩ := hrel
      go_wp2
      go_ret
      refine ⟨ret_intE (by rw [HZ.out]; simp), ?_, Turned.refl _ _, fun _ => Below.refl _ _⟩
      rw [HZ.out]
      exact fun hn => absurd hn (by simp [iota])
set_option maxHeartbeats 400000 in
theorem heldIntS_any (A : Option Addr) (c n B : Nat) (k : Int) (w : World) (hn : n ≤ 1048576) (h0 : 0 ≤ k) (h1 : k ≤ 1099511627776) (hS : IntS w B A (iota k n)) :
    Calls Try.prog 42 #[.slice A n c, .int .i64 k] w fun e w' => e = .returned (.int .i64 (k + n)) ∧ w = w' := by
  have HS := Lib.hid hS
  clear hS
  have hL := Lib.hid (iota_length k n)
  go_enter Try.func42, Try.ntmps42
  go_wp2
  go_loop [1, 5] (fun m i => ∃ j : Nat, j ≤ n ∧ i = .int .i64 j ∧ m = .int .i64 (k + j)) (fun _ i => n - (intOf i).toNat)
  case atStart => exact ⟨0, Nat.zero_le _, rfl, by simp⟩
  case round =>
    obtain ⟨j, hj, rfl, rfl⟩ := hrel
    by_cases hlt2 : j < n
    · obtain ⟨b1, o1, x, rfl, hb1, he, hc0⟩ := HS.out.at_ (k := j) (by rw [hL.out]; exact hlt2)
      rw [iota_at _ _ _ hlt2] at he
      injection he with he
      subst he
      have hi0 : (0 : Int) ≤ (j : Int) := Int.natCast_nonneg _
      have hi1 : (j : Int) < (n : Int) := by omega
      go_wp2
      exact ⟨⟨j + 1, by omega, by go_num, by congr 1; omega⟩, by simp [intOf]; omega⟩
    · have HJ := Lib.hid (show j = n by omega)
      go_wp2
      go_ret
      exact ⟨ret_intE (by rw [HJ.out]), rfl⟩
end Go.Proofs.Ytdpojcgeblbfeaa

/- Arguments opened: a graph by value is a number and a slice that reads as a list of edges. -/
namespace Go.Proofs.Ytdpojcgeblbfeaa
open Go.ChangeShapes Go.WideShapes Go.ChangeAt Go.RowKit Go.Deep Go.Joins

structure GraphArg (W : World) (N : Int) (A : Option Addr) (c : Nat) (es : List (Int × Int)) : Prop where
  lo : -9223372036854775808 ≤ N
  hi : N ≤ 9223372036854775807
  len : es.length ≤ 9223372036854775807
  edges : EdgeS W W.heap.size A es
  wf : ∀ e ∈ es, (Lit.int .i64 e.1).wf = true ∧ (Lit.int .i64 e.2).wf = true

section
variable {H : Type} {enc : TypeId × Value → H} {W : World} {base : Nat} {spare : Nat → Bool} {held : Bool}
theorem row_mem (a : Addr) (n i : Nat) (h : i < n) : MemPlace.cell a.block (a.off + i) ∈ MemPlace.row a n := by
  simp only [MemPlace.row, List.mem_map, List.mem_range]
  exact ⟨i, h, rfl⟩
set_option maxRecDepth 100000 in
theorem open_graph {r : Reach} {b0 : Nat} {v : Value} {d : DataW H} {p : List MemPlace} (hv : Value.okWide Try.prog W r b0 39 v) (h : DataW.Trod enc Try.prog W base spare held 39 v d p)
    (hlt : ∀ x ∈ p, x.block < W.heap.size) : ∃ (N : Int) (A : Option Addr) (c : Nat) (es : List (Int × Int)), v = .agg #[.int .i64 N, .slice A es.length c] ∧ GraphArg W N A c es := by
  obtain ⟨v0, v1, y0, y1, n, rfl, rfl, rfl, h0, h1⟩ := open_agg2 Try.underlying39 (by kernel_rfl) (by kernel_rfl) hv h
  obtain ⟨N, e0, rfl, hw⟩ := DataW.trod_int Try.underlying3 h0
  injection e0 with e0
  subst e0
  have hN := int_wf hw
  rcases open_slice_pairs Try.underlying37 Try.underlying135 (by kernel_rfl) rfl rfl (by kernel_rfl) (by kernel_rfl) h1 with ⟨e1, _⟩ | ⟨a, len, cap, m, n', V0, V1, D0, D1, P0, P1, e1, hb, hl, hm, hmm, rfl, hi⟩
  · injection e1 with e1
    subst e1
    exact ⟨N, none, 0, [], rfl, hN.1, hN.2, by simp, fun hn => absurd hn (by simp), fun e he => by cases he⟩
  · injection e1 with e1
    subst e1
    have hlm : len ≤ m := by rw [hmm]; split <;> omega
    have hint : ∀ i, i < m → ∃ x y : Int, V0 i = .int .i64 x ∧ V1 i = .int .i64 y ∧ (Lit.int .i64 x).wf = true ∧ (Lit.int .i64 y).wf = true := by
      intro i him
      obtain ⟨_, _, g0, g1⟩ := hi i him
      obtain ⟨x, ex, _, wx⟩ := DataW.trod_int Try.underlying3 g0
      obtain ⟨y, ey, _, wy⟩ := DataW.trod_int Try.underlying3 g1
      injection ex with ex
      injection ey with ey
      exact ⟨x, y, ex, ey, wx, wy⟩
    refine ⟨N, some a, cap, (List.range len).map fun i => (intOf (V0 i), intOf (V1 i)), by simp, hN.1, hN.2, ?_, ?_, ?_⟩
    · simp only [List.length_map, List.length_range]
      unfold maxLen at hm
      omega
    · intro hn
      simp only [List.length_map, List.length_range] at hn
      have hc0 := (hi 0 (by omega)).1
      have hs := World.cell?_spot hc0
      have hs' : a.spot = none := by simpa [Addr.add] using hs
      obtain ⟨b, off, sp⟩ := a
      simp only at hs'
      subst hs'
      refine ⟨b, off, rfl, ?_, ?_⟩
      · have := hlt (MemPlace.cell b (off + 0)) (by
          simp only [List.mem_append]
          exact .inr (.inl (row_mem ⟨b, off, none⟩ (m * 2) 0 (by omega))))
        exact this
      · intro i e he
        rw [List.getElem?_map] at he
        by_cases hil : i < len
        · rw [List.getElem?_range hil] at he
          simp only [Option.map_some, Option.some.injEq] at he
          subst he
          obtain ⟨x, y, ex, ey, _, _⟩ := hint i (by omega)
          obtain ⟨q0, q1, _, _⟩ := hi i (by omega)
          rw [ex] at q0 ⊢
          rw [ey] at q1 ⊢
          rw [add_plain] at q0 q1
          exact ⟨q0, by simpa [intOf, Nat.add_assoc] using q1⟩
        · rw [List.getElem?_eq_none (by simpa using hil)] at he
          cases he
    · intro e he
      obtain ⟨i, hil, rfl⟩ := List.mem_map.1 he
      rw [List.mem_range] at hil
      obtain ⟨x, y, ex, ey, wx, wy⟩ := hint i (by omega)
      rw [ex, ey]
      exact ⟨wx, wy⟩
end
end Go.Proofs.Ytdpojcgeblbfeaa

/- What a law keeps of the graph that came in, from call to call. -/
namespace Go.Proofs.Ytdpojcgeblbfeaa
open Go.RowKit

structure LawG (w wc : World) (N : Int) (A : Option Addr) (c : Nat) (es : List (Int × Int)) : Prop where
  box : Blk wc w.heap.size 39 #[.int .i64 N, .slice A es.length c]
  old : Below w.heap.size w wc
section
variable {w wc wd : World} {N : Int} {A : Option Addr} {c : Nat} {es : List (Int × Int)}
theorem LawG.c0 (h : LawG w wc N A c es) : wc.cell? ⟨w.heap.size, 0, none⟩ = some (.int .i64 N) := by rw [h.box.cell]; rfl
theorem LawG.c1 (h : LawG w wc N A c es) : wc.cell? ⟨w.heap.size, 1, none⟩ = some (.slice A es.length c) := by rw [h.box.cell]; rfl
theorem LawG.next (h : LawG w wc N A c es) (hb : Below wc.heap.size wc wd) : LawG w wd N A c es := ⟨h.box.below hb h.box.lt, h.old.trans (hb.mono h.old.size)⟩
theorem LawG.alloc (h : LawG w wc N A c es) (o : Obj) : LawG w (wc.alloc o) N A c es := ⟨h.box.alloc o, h.old.alloc h.old.size o⟩
theorem LawG.drew (h : LawG w wc N A c es) : LawG w wc.drew N A c es := ⟨h.box.drew, h.old.drew⟩
theorem LawG.lt (h : LawG w wc N A c es) : w.heap.size < wc.heap.size := h.box.lt
theorem LawG.edges (h : LawG w wc N A c es) (hE : EdgeS w w.heap.size A es) : EdgeS wc wc.heap.size A es := hE.up_ h.old
theorem LawG.start (w : World) (N : Int) (A : Option Addr) (c : Nat) (es : List (Int × Int)) : LawG w (w.alloc (.cells #[.int .i64 N, .slice A es.length c] 39)) N A c es := ⟨Blk.new w _ _, (Below.refl _ _).alloc (Nat.le_refl _) _⟩
end
end Go.Proofs.Ytdpojcgeblbfeaa

/- The laws' marks on slices of edges and on graphs. -/
namespace Go.Proofs.Ytdpojcgeblbfeaa
open Go.RowKit

def OwnE (w : World) (base : Nat) (A : Option Addr) (es : List (Int × Int)) : Prop :=
  0 < es.length → ∃ g off : Nat, A = some ⟨g, off, none⟩ ∧ base ≤ g ∧ g < w.heap.size ∧ ∀ (i : Nat) (e : Int × Int), es[i]? = some e →
    w.cell? ⟨g, off + i * 2, none⟩ = some (.int .i64 e.1) ∧ w.cell? ⟨g, off + i * 2 + 1, none⟩ = some (.int .i64 e.2) ∧ w.frozen? ⟨g, off + i * 2, none⟩ = false ∧ w.frozen? ⟨g, off + i * 2 + 1, none⟩ = false
theorem OwnE.edges {w : World} {base : Nat} {A : Option Addr} {es : List (Int × Int)} (h : OwnE w base A es) : EdgeS w w.heap.size A es := fun hn => by
  obtain ⟨g, off, e, _, hg, hc⟩ := h hn
  exact ⟨g, off, e, hg, fun i z hz => ⟨(hc i z hz).1, (hc i z hz).2.1⟩⟩
theorem OwnE.below {w w' : World} {base : Nat} {A : Option Addr} {es : List (Int × Int)} (h : OwnE w base A es) (hb : Below w.heap.size w w') : OwnE w' base A es := fun hn => by
  obtain ⟨g, off, e, h1, hg, hc⟩ := h hn
  refine ⟨g, off, e, h1, Nat.lt_of_lt_of_le hg hb.size, fun i z hz => ?_⟩
  obtain ⟨a, b, c, d⟩ := hc i z hz
  exact ⟨(hb.cell (p := ⟨g, off + i * 2, none⟩) hg).trans a, (hb.cell (p := ⟨g, off + i * 2 + 1, none⟩) hg).trans b, (hb.frozen (p := ⟨g, off + i * 2, none⟩) hg).trans c, (hb.frozen (p := ⟨g, off + i * 2 + 1, none⟩) hg).trans d⟩
theorem OwnE.mono {w : World} {base base' : Nat} {A : Option Addr} {es : List (Int × Int)} (h : OwnE w base A es) (hb : base' ≤ base) : OwnE w base' A es := fun hn => by
  obtain ⟨g, off, e, h1, hg, hc⟩ := h hn
  exact ⟨g, off, e, by omega, hg, hc⟩
theorem OwnE.of_blk {w : World} {g base : Nat} {t : TypeId} {es : List (Int × Int)} (h : Blk w g t (flat es).toArray) (hg : base ≤ g) : OwnE w base (some ⟨g, 0, none⟩) es := fun _ =>
  ⟨g, 0, rfl, hg, h.lt, fun i e he => by
    have := flat_at es i e he
    rw [h.cell, h.cell]
    exact ⟨by simpa using this.1, by simpa using this.2, h.frozen _, h.frozen _⟩⟩
def iotaE (k : Int) : Nat → List (Int × Int)
  | 0 => []
  | n + 1 => (k, k + 1) :: iotaE (k + 2) n
theorem iotaE_length : ∀ (k : Int) (n : Nat), (iotaE k n).length = n
  | _, 0 => rfl
  | k, n + 1 => by simp [iotaE, iotaE_length (k + 2) n]
theorem iotaE_at : ∀ (k : Int) (n i : Nat), i < n → (iotaE k n)[i]? = some (k + 2 * i, k + 2 * i + 1)
  | k, n + 1, 0, _ => by simp [iotaE]
  | k, n + 1, i + 1, h => by
    rw [iotaE, List.getElem?_cons_succ, iotaE_at (k + 2) n i (by omega)]
    have h1 : k + 2 + 2 * (i : Int) = k + 2 * ((i + 1 : Nat) : Int) := by omega
    rw [h1]
structure MarkedE (w wr : World) (g off n : Nat) (k : Int) (j : Nat) : Prop where
  turned : Turned w wr (some ⟨g, off, none⟩)
  soft : ∀ i, i < n → wr.frozen? ⟨g, off + i * 2, none⟩ = false ∧ wr.frozen? ⟨g, off + i * 2 + 1, none⟩ = false
  some_ : ∀ i, i < n → ∃ u v, wr.cell? ⟨g, off + i * 2, none⟩ = some (.int .i64 u) ∧ wr.cell? ⟨g, off + i * 2 + 1, none⟩ = some (.int .i64 v)
  done : ∀ i, i < j → wr.cell? ⟨g, off + i * 2, none⟩ = some (.int .i64 (k + 2 * i)) ∧ wr.cell? ⟨g, off + i * 2 + 1, none⟩ = some (.int .i64 (k + 2 * i + 1))
theorem cell_other {w : World} {g a b : Nat} (u : Value) (h : b ≠ a) : (w.setCell ⟨g, a, none⟩ u).cell? ⟨g, b, none⟩ = w.cell? ⟨g, b, none⟩ := World.cell?_setCell_other _ _ _ _ (by simp only [ne_eq, Addr.mk.injEq]; omega)
theorem MarkedE.step {w wr : World} {g off n j : Nat} {k : Int} (h : MarkedE w wr g off n k j) (hj : j < n) :
    MarkedE w ((wr.setCell ⟨g, off + j * 2, none⟩ (.int .i64 (k + 2 * j))).setCell ⟨g, off + j * 2 + 1, none⟩ (.int .i64 (k + 2 * j + 1))) g off n k (j + 1) := by
  obtain ⟨u, v, hu, hv⟩ := h.some_ j hj
  have key : ∀ i, (i = j → ((wr.setCell ⟨g, off + j * 2, none⟩ (.int .i64 (k + 2 * j))).setCell ⟨g, off + j * 2 + 1, none⟩ (.int .i64 (k + 2 * j + 1))).cell? ⟨g, off + i * 2, none⟩ = some (.int .i64 (k + 2 * j)) ∧
      ((wr.setCell ⟨g, off + j * 2, none⟩ (.int .i64 (k + 2 * j))).setCell ⟨g, off + j * 2 + 1, none⟩ (.int .i64 (k + 2 * j + 1))).cell? ⟨g, off + i * 2 + 1, none⟩ = some (.int .i64 (k + 2 * j + 1))) ∧
      (i ≠ j → ((wr.setCell ⟨g, off + j * 2, none⟩ (.int .i64 (k + 2 * j))).setCell ⟨g, off + j * 2 + 1, none⟩ (.int .i64 (k + 2 * j + 1))).cell? ⟨g, off + i * 2, none⟩ = wr.cell? ⟨g, off + i * 2, none⟩ ∧
      ((wr.setCell ⟨g, off + j * 2, none⟩ (.int .i64 (k + 2 * j))).setCell ⟨g, off + j * 2 + 1, none⟩ (.int .i64 (k + 2 * j + 1))).cell? ⟨g, off + i * 2 + 1, none⟩ = wr.cell? ⟨g, off + i * 2 + 1, none⟩) := by
    intro i
    constructor
    · rintro rfl
      refine ⟨?_, ?_⟩
      · rw [cell_other _ (by omega)]
        exact World.cell?_setCell_same _ _ _ hu
      · exact World.cell?_setCell_same _ _ _ ((cell_other _ (by omega)).trans hv)
    · intro hne
      exact ⟨by rw [cell_other _ (by omega), cell_other _ (by omega)], by rw [cell_other _ (by omega), cell_other _ (by omega)]⟩
  refine ⟨(h.turned.trans (Turned.set_ _ _ _ _ _)).trans (Turned.set_ _ _ _ _ _), fun i hi => ?_, fun i hi => ?_, fun i hi => ?_⟩
  · rw [World.frozen?_setCell, World.frozen?_setCell, World.frozen?_setCell, World.frozen?_setCell]
    exact h.soft i hi
  · by_cases e : i = j
    · exact ⟨_, _, ((key i).1 e).1, ((key i).1 e).2⟩
    · obtain ⟨u', v', h1, h2⟩ := h.some_ i hi
      exact ⟨u', v', ((key i).2 e).1.trans h1, ((key i).2 e).2.trans h2⟩
  · by_cases e : i = j
    · have := (key i).1 e
      rw [← e] at this
      rw [← e]
      exact this
    · obtain ⟨h1, h2⟩ := h.done i (by omega)
      exact ⟨((key i).2 e).1.trans h1, ((key i).2 e).2.trans h2⟩
theorem OwnE.elim_ {w w' : World} {A : Option Addr} {base : Nat} {es : List (Int × Int)} (ho : OwnE w base A es) (h : Turned w w' A) (hb : base ≤ w.heap.size) (hn : 0 < es.length) : Below base w w' :=
  ⟨h.os, h.tape, h.output, by rw [h.size]; exact Nat.le_refl _, fun i hi => h.block i (by omega) fun off he => by
    obtain ⟨g, o2, e2, hg, _, _⟩ := ho hn
    rw [e2] at he
    injection he with he
    injection he with he
    omega⟩

def MarkDoneE (w : World) (base : Nat) (A : Option Addr) (n : Nat) (k : Int) (e : Ending) (w' : World) : Prop :=
  e = .returned (.int .i64 (k + 2 * n)) ∧ OwnE w' base A (iotaE k n) ∧ Turned w w' A ∧ (base ≤ w.heap.size → Below base w w')
set_option maxHeartbeats 400000 in
theorem markEdgeS_any (A : Option Addr) (c base : Nat) (es : List (Int × Int)) (k : Int) (w : World) (hn : es.length ≤ 1048576) (h0 : 0 ≤ k) (h1 : k ≤ 1099511627776) (hO : OwnE w base A es) :
    Calls Try.prog 78 #[.slice A es.length c, .int .i64 k] w (MarkDoneE w base A es.length k) := by
  by_cases hz : 0 < es.length
  · obtain ⟨g, off, rfl, hg, hlt, hc⟩ := hO hz
    have hm0 : MarkedE w w g off es.length k 0 := ⟨Turned.refl _ _, fun i hi => (hc i _ (List.getElem?_eq_getElem hi)).2.2, fun i hi => ⟨_, _, (hc i _ (List.getElem?_eq_getElem hi)).1, (hc i _ (List.getElem?_eq_getElem hi)).2.1⟩, fun i hi => absurd hi (by omega)⟩
    have HM := Lib.hid hm0
    have HO := Lib.hid hO
    clear hm0 hc hO
    go_enter Try.func78, Try.ntmps78
    go_wp2
    go_loopw [1, 5] (fun m i wr => ∃ j : Nat, j ≤ es.length ∧ i = .int .i64 j ∧ m = .int .i64 (k + 2 * j) ∧ MarkedE w wr g off es.length k j) (fun _ i _ => es.length - (intOf i).toNat)
    case atStart => exact ⟨0, Nat.zero_le _, rfl, by simp, HM.out⟩
    case round =>
      obtain ⟨j, hj, rfl, rfl, hm⟩ := hrel
      have HM2 := Lib.hid hm
      clear hm
      by_cases hlt2 : j < es.length
      · have hi0 : (0 : Int) ≤ (j : Int) := Int.natCast_nonneg _
        have hi1 : (j : Int) < (es.length : Int) := by omega
        obtain ⟨hf, hf2⟩ := HM2.out.soft j hlt2
        obtain ⟨u, v, hu, hv⟩ := HM2.out.some_ j hlt2
        go_wp2
        exact ⟨⟨j + 1, by omega, by go_num, by congr 1; omega, HM2.out.step hlt2⟩, by simp [intOf]; omega⟩
      · have HJ := Lib.hid (show j = es.length by omega)
        go_wp2
        go_ret
        refine ⟨ret_intE (by rw [HJ.out]), ?_, HM2.out.turned, fun hbs => HO.out.elim_ HM2.out.turned hbs hz⟩
        obtain ⟨t1, t2, t3, t4⟩ := HM2.out
        intro _
        refine ⟨g, off, rfl, hg, by rw [t1.size]; exact hlt, fun i z hz2 => ?_⟩
        have hil : i < es.length := by
          have := (List.getElem?_eq_some_iff.1 hz2).1
          rw [iotaE_length] at this
          exact this
        rw [iotaE_at _ _ _ hil] at hz2
        injection hz2 with hz2
        subst hz2
        exact ⟨(t4 i (by omega)).1, (t4 i (by omega)).2, (t2 i hil).1, (t2 i hil).2⟩
  · have hz0 : es.length ≤ 0 := by omega
    have HZ := Lib.hid (show es.length = 0 by omega)
    go_enter Try.func78, Try.ntmps78
    go_wp2
    go_loop [1, 5] (fun m i => i = .int .i64 0 ∧ m = .int .i64 k) (fun _ _ => 0)
    case atStart => exact ⟨rfl, rfl⟩
    case round =>
      obtain ⟨rfl, rfl⟩ := hrel
      go_wp2
      go_ret
      refine ⟨ret_intE (by rw [HZ.out]; simp), ?_, Turned.refl _ _, fun _ => Below.refl _ _⟩
      rw [HZ.out]
      exact fun hn => absurd hn (by simp [iotaE])
end Go.Proofs.Ytdpojcgeblbfeaa

/- Arguments opened: a slice of ints, read as a list. -/
namespace Go.Proofs.Ytdpojcgeblbfeaa
open Go.ChangeShapes Go.WideShapes Go.ChangeAt Go.RowKit Go.Deep

section
variable {H : Type} {enc : TypeId × Value → H} {W : World} {base : Nat}
end
end Go.Proofs.Ytdpojcgeblbfeaa

/- What a step of a law leaves as it was: all but the blocks of a range. -/
namespace Go.Proofs.Ytdpojcgeblbfeaa
open Go.RowKit

structure Between (w w' : World) (lo hi : Nat) : Prop where
  os : w'.os = w.os
  tape : w'.tape = w.tape
  output : w'.output = w.output
  size : w'.heap.size = w.heap.size
  block : ∀ i, i < w.heap.size → (i ≤ lo ∨ hi ≤ i) → w'.heap[i]? = w.heap[i]?
theorem Between.refl (w : World) (lo hi : Nat) : Between w w lo hi := ⟨rfl, rfl, rfl, rfl, fun _ _ _ => rfl⟩
theorem Between.trans {a b c : World} {lo hi : Nat} (h : Between a b lo hi) (k : Between b c lo hi) : Between a c lo hi :=
  ⟨k.os.trans h.os, k.tape.trans h.tape, k.output.trans h.output, k.size.trans h.size, fun i hi hne => (k.block i (by rw [h.size]; exact hi) hne).trans (h.block i hi hne)⟩
theorem Between.below {w w' : World} {lo hi B : Nat} (h : Between w w' lo hi) (hB : B ≤ lo + 1) (hs : B ≤ w.heap.size) : Below B w w' :=
  ⟨h.os, h.tape, h.output, by rw [h.size]; exact Nat.le_refl _, fun i hi => h.block i (by omega) (.inl (by omega))⟩
theorem Blk.turned {w w' : World} {g g' off : Nat} {t : TypeId} {cs : Array Value} (h : Blk w g t cs) (hb : Turned w w' (some ⟨g', off, none⟩)) (hg : g ≠ g') : Blk w' g t cs :=
  (hb.block g h.lt fun o e => by
    injection e with e
    injection e with e
    exact hg e.symm).trans h
structure Moves (lo hi : Nat) (w w' : World) : Prop where
  os : w'.os = w.os
  tape : w'.tape = w.tape
  output : w'.output = w.output
  size : w.heap.size ≤ w'.heap.size
  block : ∀ i, i < w.heap.size → (i < lo ∨ hi ≤ i) → w'.heap[i]? = w.heap[i]?
section
variable {w w' wc wd : World} {lo hi B base g : Nat} {A : Option Addr}
theorem belowMv (h : Below w.heap.size w w') (n : Nat) : Moves n n w w' := ⟨h.os, h.tape, h.output, h.size, fun i hi _ => h.block i hi⟩
theorem grownMv (h : w.grownBy w' (some g)) : Moves g (g + 1) w w' := ⟨h.os, h.tape, h.output, h.size, fun i hi ho => h.block i hi (by simp; omega)⟩
theorem belowMoves (h : Below B w wc) (m : Moves lo hi wc wd) (h1 : B ≤ lo) (h2 : B ≤ wc.heap.size) : Below B w wd :=
  ⟨m.os.trans h.os, m.tape.trans h.tape, m.output.trans h.output, Nat.le_trans h.size m.size, fun i hi => (m.block i (by omega) (.inl (by omega))).trans (h.block i hi)⟩
theorem IntS.moves {zs : List Int} (h : IntS w B A zs) (m : Moves lo hi w w') (h1 : B ≤ lo) (h2 : B ≤ w.heap.size) : IntS w' B A zs :=
  h.keep (fun p hp => World.cell?_of_block (m.block p.block (by omega) (.inl (by omega)))) (Nat.le_refl _)
theorem OwnI.moves {zs : List Int} (h : OwnI w base A zs) (m : Moves lo hi w w') (h1 : hi ≤ base) : OwnI w' base A zs := fun hn => by
  obtain ⟨k, off, e, h1, hk, hc⟩ := h hn
  have hbl := m.block k hk (.inr (by omega))
  exact ⟨k, off, e, h1, Nat.lt_of_lt_of_le hk m.size, fun i z hz => ⟨(World.cell?_of_block (a := ⟨k, off + i, none⟩) hbl).trans (hc i z hz).1, (World.frozen?_of_block (a := ⟨k, off + i, none⟩) hbl).trans (hc i z hz).2⟩⟩
theorem Blk.moves {t : TypeId} {cs : Array Value} (h : Blk w g t cs) (m : Moves lo hi w w') (h1 : g < lo ∨ hi ≤ g) : Blk w' g t cs := (m.block g h.lt h1).trans h
theorem IntS.wide {zs : List Int} {B' : Nat} (h : IntS w B A zs) (hB : B ≤ B') : IntS w B' A zs := h.keep (fun _ _ => rfl) hB
theorem LawG.moves {N : Int} {c : Nat} {es : List (Int × Int)} (h : LawG w wc N A c es) (m : Moves lo hi wc wd) (h1 : w.heap.size < lo) : LawG w wd N A c es :=
  ⟨h.box.moves m (.inl h1), belowMoves h.old m (by omega) h.old.size⟩
theorem OwnE.moves {es : List (Int × Int)} (h : OwnE w base A es) (m : Moves lo hi w w') (h1 : hi ≤ base) : OwnE w' base A es := fun hn => by
  obtain ⟨k, off, e, h1, hk, hc⟩ := h hn
  have hbl := m.block k hk (.inr (by omega))
  have hcl : ∀ o : Nat, w'.cell? ⟨k, o, none⟩ = w.cell? ⟨k, o, none⟩ := fun o => World.cell?_of_block (a := ⟨k, o, none⟩) hbl
  have hfr : ∀ o : Nat, w'.frozen? ⟨k, o, none⟩ = w.frozen? ⟨k, o, none⟩ := fun o => World.frozen?_of_block (a := ⟨k, o, none⟩) hbl
  exact ⟨k, off, e, h1, Nat.lt_of_lt_of_le hk m.size, fun i z hz => by rw [hcl, hcl, hfr, hfr]; exact hc i z hz⟩
end
set_option maxHeartbeats 400000 in
theorem markGraphB_any (N k : Int) (g : Nat) (es : List (Int × Int)) (w : World) (hn : es.length ≤ 1048576) (h0 : 0 ≤ k) (h1 : k ≤ 1099511627776) (hE : Blk w g 121 (flat es).toArray) :
    Calls Try.prog 28 #[.agg #[.int .i64 N, .slice (some ⟨g, 0, none⟩) es.length es.length], .int .i64 k] w fun e w' => e = .returned (.int .i64 (k + 2 * es.length)) ∧ w.grownBy w' (some g) := by
  have HE := Lib.hid hE
  have hgl := hE.lt
  clear hE
  go_enter Try.func28, Try.ntmps28
  go_wp2_with fail
  refine (markEdgeS_any _ _ g es k _ hn h0 h1 (OwnE.of_blk (HE.out.alloc _) (Nat.le_refl _))).mono ?_
  rintro e w1 ⟨rfl, _, ht, _⟩
  have hg1 : w.grownBy w1 (some g) := ⟨ht.os, ht.tape, ht.output, by rw [ht.size]; simp, fun i hi hne => by
    rw [ht.block i (by simp; omega) (fun off he => hne (by injection he with he; injection he with he; rw [he]))]
    exact Below.heap_alloc w _ i hi⟩
  go_wp2
  go_ret
  exact ⟨rfl, hg1⟩
end Go.Proofs.Ytdpojcgeblbfeaa

/- One new cell, as an append reads it; worlds that drew alone. -/
namespace Go.Proofs.Ytdpojcgeblbfeaa
open Go.RowKit

theorem one_cellI (W : World) (g : Nat) (hg : g = W.heap.size) (t : TypeId) (u : Value) (j : Nat) (x : Value) (h : [u][j]? = some x) : (W.alloc (.cells #[u] t)).cell? ((⟨g, 0, none⟩ : Addr).add j) = some x := by
  subst hg
  cases j with
  | zero =>
    simp only [List.getElem?_cons_zero, Option.some.injEq] at h
    subst h
    exact (Blk.new W t #[u]).cell 0
  | succ j => simp at h
end Go.Proofs.Ytdpojcgeblbfeaa

/- The laws' heldEdgeS. -/
namespace Go.Proofs.Ytdpojcgeblbfeaa
open Go.RowKit

end Go.Proofs.Ytdpojcgeblbfeaa

/- The laws' heldGraph, and marks on a graph of the call's own. -/
namespace Go.Proofs.Ytdpojcgeblbfeaa
open Go.RowKit

end Go.Proofs.Ytdpojcgeblbfeaa

/- Slices of slices of ints: what the laws' helpers do with them: sizes, copies, comparisons. -/
namespace Go.Proofs.Ytdpojcgeblbfeaa
open Go.RowKit

def IntSS (w : World) (B : Nat) (A : Option Addr) (rs : List (List Int)) : Prop :=
  0 < rs.length → ∃ b off : Nat, A = some ⟨b, off, none⟩ ∧ b < B ∧ ∀ (i : Nat) (r : List Int), rs[i]? = some r → ∃ (Ai : Option Addr) (ci : Nat), w.cell? ⟨b, off + i, none⟩ = some (.slice Ai r.length ci) ∧ IntS w B Ai r
theorem IntSS.keep {w w' : World} {B B' : Nat} {A : Option Addr} {rs : List (List Int)} (h : IntSS w B A rs) (hk : ∀ p : Addr, p.block < B → w'.cell? p = w.cell? p) (hB : B ≤ B') : IntSS w' B' A rs :=
  fun hn => by
    obtain ⟨b, off, e, hb, hc⟩ := h hn
    refine ⟨b, off, e, by omega, fun i r hr => ?_⟩
    obtain ⟨Ai, ci, h1, h2⟩ := hc i r hr
    exact ⟨Ai, ci, (hk _ hb).trans h1, h2.keep hk hB⟩
theorem IntSS.below {w w' : World} {B : Nat} {A : Option Addr} {rs : List (List Int)} (h : IntSS w B A rs) (hb : Below B w w') : IntSS w' B A rs := h.keep (fun _ hp => hb.cell hp) (Nat.le_refl _)
theorem IntSS.up_ {w w' : World} {A : Option Addr} {rs : List (List Int)} (h : IntSS w w.heap.size A rs) (hb : Below w.heap.size w w') : IntSS w' w'.heap.size A rs := h.keep (fun _ hp => hb.cell hp) hb.size
theorem IntSS.at_ {w : World} {B : Nat} {A : Option Addr} {rs : List (List Int)} (h : IntSS w B A rs) {k : Nat} (hk : k < rs.length) :
    ∃ (b off : Nat) (r : List Int) (Ai : Option Addr) (ci : Nat), A = some ⟨b, off, none⟩ ∧ b < B ∧ rs[k]? = some r ∧ w.cell? ⟨b, off + k, none⟩ = some (.slice Ai r.length ci) ∧ IntS w B Ai r := by
  obtain ⟨b, off, e, hb, hc⟩ := h (by omega)
  obtain ⟨Ai, ci, h1, h2⟩ := hc k rs[k] (List.getElem?_eq_getElem hk)
  exact ⟨b, off, rs[k], Ai, ci, e, hb, List.getElem?_eq_getElem hk, h1, h2⟩

def lens : List (List Int) → Nat
  | [] => 0
  | r :: l => r.length + lens l
theorem lens_append : ∀ a b : List (List Int), lens (a ++ b) = lens a + lens b
  | [], b => by simp [lens]
  | x :: l, b => by simp [lens, lens_append l b]; omega
theorem lens_snoc {rs : List (List Int)} {k : Nat} {r : List Int} (h : rs[k]? = some r) : lens (rs.take (k + 1)) = lens (rs.take k) + r.length := by
  rw [List.take_add_one, h, lens_append]
  simp [lens]
theorem lens_take_le (rs : List (List Int)) (k : Nat) : lens (rs.take k) ≤ lens rs := by
  conv => rhs; rw [← List.take_append_drop k rs, lens_append]
  omega
theorem len_le_lens {rs : List (List Int)} {k : Nat} {r : List Int} (h : rs[k]? = some r) : r.length ≤ lens rs := by
  have h1 := lens_snoc h
  have h2 := lens_take_le rs (k + 1)
  omega



theorem intsInfo : (Try.prog.info? 28).map (fun i => (i.zero, i.size, i.bytes)) = some (some (.slice none 0 0), 1, 24) := by kernel_rfl
theorem made_rows (n : Nat) : madeCells (Value.slice none 0 0).cells (n * 1) = (List.replicate n (Value.slice none 0 0)).toArray := by
  apply Array.ext
  · simp [madeCells]
  · intro i h1 h2
    simp only [madeCells, Array.getElem_map, Array.getElem_range, List.getElem_toArray, List.getElem_replicate]
    show (#[Value.slice none 0 0] : Array Value)[i % 1]! = _
    rw [Nat.mod_one]
    rfl
theorem make_rows (n : Nat) (hn : n ≤ 1048576) (w : World) : (Instr.makeSlice 41 (.int .i64 (n : Int)) (.int .i64 (n : Int))).run Try.prog w =
    .ok (.slice (some ⟨w.heap.size, 0, none⟩) n n) (w.alloc (.cells (List.replicate n (Value.slice none 0 0)).toArray 28)) := by
  obtain ⟨i0, hi, hz0, hz1, hz2⟩ := info_parts intsInfo
  have hr := run_make (P := Try.prog) w 41 28 i0 _ Try.underlying41 hi hz0 .i64 .i64 n n (by omega) (by omega) (by rw [hz2]; omega) (by omega)
  rw [hz1] at hr
  simp only [Int.toNat_natCast] at hr
  rw [made_rows] at hr
  exact hr
def RowsTo (w : World) (g hi : Nat) (rs : List (List Int)) (k : Nat) : Prop :=
  ∃ (vals : List Value) (G : Nat → Nat), Blk w g 28 (vals ++ List.replicate (rs.length - k) (Value.slice none 0 0)).toArray ∧ vals.length = k ∧
    (∀ (i : Nat) (r : List Int), i < k → rs[i]? = some r → vals[i]? = some (.slice (some ⟨G i, 0, none⟩) r.length r.length) ∧ g < G i ∧ G i < hi ∧ Blk w (G i) 3 (intCells r).toArray) ∧
    ∀ i j, i < j → j < k → G i < G j
theorem RowsTo.below {w w' : World} {g hi k : Nat} {rs : List (List Int)} (h : RowsTo w g hi rs k) (hb : Below w.heap.size w w') : RowsTo w' g hi rs k := by
  obtain ⟨vals, G, h1, h2, h3, h4⟩ := h
  refine ⟨vals, G, h1.below hb h1.lt, h2, fun i r hi hr => ?_, h4⟩
  obtain ⟨q1, q2, q3, q4⟩ := h3 i r hi hr
  exact ⟨q1, q2, q3, q4.below hb q4.lt⟩
theorem RowsTo.more {w : World} {g hi hi' k : Nat} {rs : List (List Int)} (h : RowsTo w g hi rs k) (hh : hi ≤ hi') : RowsTo w g hi' rs k := by
  obtain ⟨vals, G, h1, h2, h3, h4⟩ := h
  refine ⟨vals, G, h1, h2, fun i r hi hr => ?_, h4⟩
  obtain ⟨q1, q2, q3, q4⟩ := h3 i r hi hr
  exact ⟨q1, q2, by omega, q4⟩
theorem RowsTo.put {w : World} {g k gk : Nat} {rs : List (List Int)} {r : List Int} (h : RowsTo w g gk rs k) (hr : rs[k]? = some r) (hg : g < gk) (hb : Blk w gk 3 (intCells r).toArray) :
    RowsTo (w.setCell ⟨g, k, none⟩ (.slice (some ⟨gk, 0, none⟩) r.length r.length)) g (gk + 1) rs (k + 1) := by
  obtain ⟨vals, G, h1, h2, h3, h5⟩ := h
  have hk : k < rs.length := (List.getElem?_eq_some_iff.1 hr).1
  refine ⟨vals ++ [.slice (some ⟨gk, 0, none⟩) r.length r.length], fun i => if i = k then gk else G i, ?_, by simp [h2], fun i r2 hi hr2 => ?_, fun i j hij hj => ?_⟩
  · have h4 := h1.set_ k (.slice (some ⟨gk, 0, none⟩) r.length r.length)
    rw [List.setIfInBounds_toArray] at h4
    have e1 : rs.length - k = (rs.length - (k + 1)) + 1 := by omega
    rw [e1, List.replicate_succ, List.set_append_right _ _ (by omega), h2, Nat.sub_self] at h4
    simpa using h4
  · by_cases e : i = k
    · subst e
      rw [hr] at hr2
      injection hr2 with hr2
      subst hr2
      dsimp only
      rw [if_pos rfl]
      exact ⟨by rw [List.getElem?_append_right (by omega), h2]; simp, hg, by omega, hb.far (by simp; omega) _⟩
    · obtain ⟨q1, q2, q3, q4⟩ := h3 i r2 (by omega) hr2
      dsimp only
      rw [if_neg e]
      exact ⟨by rw [List.getElem?_append_left (by omega)]; exact q1, q2, by omega, q4.far (by simp; omega) _⟩
  · have hir : rs[i]? = some (rs[i]'(by omega)) := List.getElem?_eq_getElem (by omega)
    obtain ⟨_, _, q3, _⟩ := h3 i _ (by omega) hir
    dsimp only
    rw [if_neg (by omega)]
    by_cases e : j = k
    · rw [if_pos e]
      exact q3
    · rw [if_neg e]
      exact h5 i j hij (by omega)
theorem RowsTo.cell {w : World} {g hi k : Nat} {rs : List (List Int)} (h : RowsTo w g hi rs k) (hk : k < rs.length) : w.cell? ⟨g, k, none⟩ = some (.slice none 0 0) ∧ w.frozen? ⟨g, k, none⟩ = false := by
  obtain ⟨vals, G, h1, h2, h3, _⟩ := h
  refine ⟨?_, h1.frozen _⟩
  rw [h1.cell]
  have e1 : rs.length - k = (rs.length - (k + 1)) + 1 := by omega
  rw [List.getElem?_toArray, List.getElem?_append_right (by omega), h2, Nat.sub_self, e1, List.replicate_succ]
  rfl
theorem RowsTo.rows {w : World} {g hi : Nat} {rs : List (List Int)} (h : RowsTo w g hi rs rs.length) : IntSS w w.heap.size (some ⟨g, 0, none⟩) rs := fun _ => by
  obtain ⟨vals, G, h1, h2, h3, _⟩ := h
  refine ⟨g, 0, rfl, h1.lt, fun i r hr => ?_⟩
  have hi : i < rs.length := (List.getElem?_eq_some_iff.1 hr).1
  obtain ⟨q1, q2, _, q3⟩ := h3 i r hi hr
  refine ⟨_, r.length, ?_, IntS.of_blk q3 q3.lt⟩
  rw [h1.cell, List.getElem?_toArray, Nat.zero_add, List.getElem?_append_left (by omega)]
  exact q1


set_option maxHeartbeats 1000000 in
theorem eqIntSS_any (A C : Option Addr) (ca cc : Nat) (es fs : List (List Int)) (w : World) (hn : es.length ≤ 9223372036854775807) (hm : fs.length ≤ 9223372036854775807) (hx : ∀ r ∈ es, r.length ≤ 9223372036854775807) (hy : ∀ r ∈ fs, r.length ≤ 9223372036854775807)
    (h1 : IntSS w w.heap.size A es) (h2 : IntSS w w.heap.size C fs) :
    Calls Try.prog 26 #[.slice A es.length ca, .slice C fs.length cc] w fun e w' => e = .returned (.bool (decide (es = fs))) ∧ Below w.heap.size w w' := by
  by_cases hl : es.length = fs.length
  · have H1 := Lib.hid h1
    have H2 := Lib.hid h2
    have HX := Lib.hid hx
    have HY := Lib.hid hy
    clear h1 h2 hx hy
    have hl2 : ((es.length : Int) != (fs.length : Int)) = false := by simp [hl]
    have hl3 : es.length ≤ fs.length := by omega
    have hl4 : fs.length ≤ es.length := by omega
    clear hl
    go_enter Try.func26, Try.ntmps26
    go_wp2
    go_loopw [5] (fun i wr => ∃ k : Nat, k ≤ es.length ∧ i = .int .i64 k ∧ es.take k = fs.take k ∧ Below w.heap.size w wr) (fun i _ => es.length - (intOf i).toNat)
    case atStart => exact ⟨0, Nat.zero_le _, rfl, rfl, Below.refl _ _⟩
    case round =>
      obtain ⟨k, hk, rfl, ht, hb⟩ := hrel
      have HT := Lib.hid ht
      clear ht
      by_cases hlt : k < es.length
      · obtain ⟨b1, o1, r, A1, c1, rfl, hb1, he, hc0, hr1⟩ := (H1.out.below hb).at_ hlt
        obtain ⟨b2, o2, s, A2, c2, rfl, hb2, hf, hd0, hs1⟩ := (H2.out.below hb).at_ (k := k) (by omega)
        have hrl := HX.out r (List.mem_of_getElem? he)
        have hsl := HY.out s (List.mem_of_getElem? hf)
        have HE := Lib.hid he
        have HF := Lib.hid hf
        have HR1 := Lib.hid (hr1.keep (w' := wr.drew) (B' := wr.drew.heap.size) (fun _ _ => rfl) hb.size)
        have HS1 := Lib.hid (hs1.keep (w' := wr.drew) (B' := wr.drew.heap.size) (fun _ _ => rfl) hb.size)
        clear he hf hr1 hs1
        have hi0 : (0 : Int) ≤ (k : Int) := Int.natCast_nonneg _
        have hi1 : (k : Int) < (es.length : Int) := by omega
        have hi2 : (k : Int) < (fs.length : Int) := by omega
        go_wp2
        go_region_held3 (fun w' => w'.cell? ⟨b1, o1 + k, none⟩ = some (.slice A1 r.length c1) ∧ w'.cell? ⟨b2, o2 + k, none⟩ = some (.slice A2 s.length c2) ∧ w'.cell? ⟨b1, o1 + k, none⟩ = some (.slice A1 r.length c1) ∧ w'.cell? ⟨b2, o2 + k, none⟩ = some (.slice A2 s.length c2) ∧ Below w.heap.size w w')
          (first
            | exact ⟨hc0, hd0, hc0, hd0, hb.drew⟩
            | exact keep4 (by assumption) hb3 hb1 hb2 hb1 hb2)
          (first | (go_at_call 34; refine (eqIntS_any _ _ _ _ _ _ _ hrl hsl HR1.out HS1.out).mono ?_; rintro e2 w2 ⟨rfl, hb3⟩))
        go_wp2
        · have hE : r ≠ s := by
            intro h
            have : (!decide (r = s)) = true := by assumption
            simp [h] at this
          have HQ := Lib.hid (take_differ HE.out HF.out hE)
          go_ret
          exact ⟨ret_boolE HQ.out.symm, hb.drew.trans (hb3.mono hb.size)⟩
        · have hE : r = s := by
            have : (!decide (r = s)) = false := by assumption
            simpa using this
          exact ⟨⟨k + 1, by omega, by go_num, take_same HT.out HE.out (by rw [hE]; exact HF.out), hb.drew.trans (hb3.mono hb.size)⟩, by simp [intOf]; omega⟩
      · have HA := Lib.hid (take_all_same HT.out (by omega) (by omega))
        go_wp2
        go_ret
        exact ⟨ret_boolE HA.out.symm, hb⟩
  · have hl2 : ((es.length : Int) != (fs.length : Int)) = true := by simp; omega
    have HD := Lib.hid (show decide (es = fs) = false by rw [decide_eq_false_iff_not]; rintro rfl; exact hl rfl)
    clear hl
    go_enter Try.func26, Try.ntmps26
    go_wp2
    go_ret
    exact ⟨ret_boolE HD.out.symm, Below.refl _ _⟩
end Go.Proofs.Ytdpojcgeblbfeaa

/- Arguments opened: a slice of slices of ints, read as lists. -/
namespace Go.Proofs.Ytdpojcgeblbfeaa
open Go.ChangeShapes Go.WideShapes Go.ChangeAt Go.RowKit Go.Deep

section
variable {H : Type} {enc : TypeId × Value → H} {W : World} {base : Nat}
end
end Go.Proofs.Ytdpojcgeblbfeaa

/- What a step leaves of slices of slices. -/
namespace Go.Proofs.Ytdpojcgeblbfeaa
open Go.RowKit

section
variable {w w' : World} {lo hi B : Nat} {A : Option Addr}
theorem IntSS.moves {rs : List (List Int)} (h : IntSS w B A rs) (m : Moves lo hi w w') (h1 : B ≤ lo) (h2 : B ≤ w.heap.size) : IntSS w' B A rs :=
  h.keep (fun p hp => World.cell?_of_block (m.block p.block (by omega) (.inl (by omega)))) (Nat.le_refl _)
end
end Go.Proofs.Ytdpojcgeblbfeaa

/- Slices of slices of ints in memory of the call's own, whatever lies behind each row: the laws' marks on them. -/
namespace Go.Proofs.Ytdpojcgeblbfeaa
open Go.RowKit

def OwnR (w : World) (base hi G : Nat) (A : Option Addr) (r : List Int) : Prop :=
  0 < r.length → ∃ o : Nat, A = some ⟨G, o, none⟩ ∧ base ≤ G ∧ G < hi ∧ ∀ (j : Nat) (z : Int), r[j]? = some z → w.cell? ⟨G, o + j, none⟩ = some (.int .i64 z) ∧ w.frozen? ⟨G, o + j, none⟩ = false
def OwnSS (w : World) (base hi : Nat) (A : Option Addr) (rs : List (List Int)) : Prop :=
  0 < rs.length → ∃ (g off : Nat) (G : Nat → Nat), A = some ⟨g, off, none⟩ ∧ base ≤ g ∧ g < hi ∧ hi ≤ w.heap.size ∧
    (∀ (i : Nat) (r : List Int), rs[i]? = some r → ∃ (Ai : Option Addr) (ci : Nat), w.cell? ⟨g, off + i, none⟩ = some (.slice Ai r.length ci) ∧ OwnR w base hi (G i) Ai r ∧ G i ≠ g) ∧ ∀ i j, i < rs.length → j < rs.length → i ≠ j → G i ≠ G j
section
variable {w w' : World} {base hi lo' hi' : Nat} {A : Option Addr} {rs : List (List Int)}
theorem OwnR.moves {G : Nat} {r : List Int} (h : OwnR w base hi G A r) (m : Moves lo' hi' w w') (hs : hi ≤ w.heap.size) (h1 : G < lo' ∨ hi' ≤ G) : OwnR w' base hi G A r := fun hn => by
  obtain ⟨o, e, h2, h3, h4⟩ := h hn
  have hbl := m.block G (by omega) h1
  exact ⟨o, e, h2, h3, fun j z hz => ⟨(World.cell?_of_block (a := ⟨G, o + j, none⟩) hbl).trans (h4 j z hz).1, (World.frozen?_of_block (a := ⟨G, o + j, none⟩) hbl).trans (h4 j z hz).2⟩⟩
theorem OwnR.keep {G : Nat} {r : List Int} (h : OwnR w base hi G A r) (hbl : w'.heap[G]? = w.heap[G]?) : OwnR w' base hi G A r := fun hn => by
  obtain ⟨o, e, h2, h3, h4⟩ := h hn
  exact ⟨o, e, h2, h3, fun j z hz => ⟨(World.cell?_of_block (a := ⟨G, o + j, none⟩) hbl).trans (h4 j z hz).1, (World.frozen?_of_block (a := ⟨G, o + j, none⟩) hbl).trans (h4 j z hz).2⟩⟩
theorem OwnR.none_ {G : Nat} {r : List Int} (h : r.length = 0) : OwnR w base hi G A r := fun hn => absurd hn (by omega)
theorem OwnSS.moves (h : OwnSS w base hi A rs) (m : Moves lo' hi' w w') (h1 : hi ≤ lo' ∨ hi' ≤ base) : OwnSS w' base hi A rs := fun hn => by
  obtain ⟨g, off, G, e, h2, h3, h4, h5, h6⟩ := h hn
  have hs := m.size
  refine ⟨g, off, G, e, h2, h3, by omega, fun i r hr => ?_, h6⟩
  obtain ⟨Ai, ci, q1, q2, q3⟩ := h5 i r hr
  refine ⟨Ai, ci, (World.cell?_of_block (a := ⟨g, off + i, none⟩) (m.block g (by omega) (by omega))).trans q1, ?_, q3⟩
  by_cases hz : 0 < r.length
  · obtain ⟨o, e2, p1, p2, _⟩ := q2 hz
    exact q2.moves m h4 (by omega)
  · exact OwnR.none_ (by omega)
theorem OwnSS.ints (h : OwnSS w base hi A rs) : IntSS w hi A rs := fun hn => by
  obtain ⟨g, off, G, e, h2, h3, h4, h5, h6⟩ := h hn
  refine ⟨g, off, e, h3, fun i r hr => ?_⟩
  obtain ⟨Ai, ci, q1, q2, q3⟩ := h5 i r hr
  refine ⟨Ai, ci, q1, fun hz => ?_⟩
  obtain ⟨o, e2, p1, p2, p3⟩ := q2 hz
  exact ⟨G i, o, e2, p2, fun j z hj => (p3 j z hj).1⟩
theorem OwnSS.mono {base' : Nat} (h : OwnSS w base hi A rs) (hb : base' ≤ base) : OwnSS w base' hi A rs := fun hn => by
  obtain ⟨g, off, G, e, h2, h3, h4, h5, h6⟩ := h hn
  refine ⟨g, off, G, e, by omega, h3, h4, fun i r hr => ?_, h6⟩
  obtain ⟨Ai, ci, q1, q2, q3⟩ := h5 i r hr
  refine ⟨Ai, ci, q1, fun hz => ?_, q3⟩
  obtain ⟨o, e2, p1, p2, p3⟩ := q2 hz
  exact ⟨o, e2, by omega, p2, p3⟩
theorem OwnSS.nil (w : World) (base hi : Nat) (A : Option Addr) : OwnSS w base hi A [] := fun h => absurd h (by simp)
end

def iotaSS (k : Int) : List (List Int) → List (List Int)
  | [] => []
  | r :: l => iota k r.length :: iotaSS (k + r.length) l
theorem iotaSS_length : ∀ (k : Int) (rs : List (List Int)), (iotaSS k rs).length = rs.length
  | _, [] => rfl
  | k, r :: l => by simp [iotaSS, iotaSS_length (k + r.length) l]
theorem iotaSS_at : ∀ (k : Int) (rs : List (List Int)) (i : Nat) (r : List Int), rs[i]? = some r → (iotaSS k rs)[i]? = some (iota (k + lens (rs.take i)) r.length)
  | k, s :: l, 0, r, h => by
    simp only [List.getElem?_cons_zero, Option.some.injEq] at h
    subst h
    simp [iotaSS, lens]
  | k, s :: l, i + 1, r, h => by
    rw [List.getElem?_cons_succ] at h
    rw [iotaSS, List.getElem?_cons_succ, iotaSS_at (k + s.length) l i r h, List.take_succ_cons, lens]
    congr 2
    omega
def markTo (k : Int) (rs : List (List Int)) (j : Nat) : List (List Int) := (iotaSS k rs).take j ++ rs.drop j
theorem markTo_zero (k : Int) (rs : List (List Int)) : markTo k rs 0 = rs := by simp [markTo]
theorem markTo_all (k : Int) (rs : List (List Int)) {j : Nat} (h : rs.length ≤ j) : markTo k rs j = iotaSS k rs := by
  rw [markTo, List.take_of_length_le (by rw [iotaSS_length]; exact h), List.drop_of_length_le h, List.append_nil]
theorem markTo_at (k : Int) (rs : List (List Int)) {j : Nat} {r : List Int} (h : rs[j]? = some r) : (markTo k rs j)[j]? = some r := by
  have hj : j < rs.length := (List.getElem?_eq_some_iff.1 h).1
  have hl : ((iotaSS k rs).take j).length = j := by simp [iotaSS_length]; omega
  rw [markTo, List.getElem?_append_right (by omega), hl, Nat.sub_self, List.getElem?_drop, Nat.add_zero, h]
theorem markTo_set (k : Int) (rs : List (List Int)) {j : Nat} {r : List Int} (h : rs[j]? = some r) : (markTo k rs j).set j (iota (k + lens (rs.take j)) r.length) = markTo k rs (j + 1) := by
  have hj : j < rs.length := (List.getElem?_eq_some_iff.1 h).1
  have hl : ((iotaSS k rs).take j).length = j := by simp [iotaSS_length]; omega
  rw [markTo, markTo, List.set_append_right _ _ (by omega), hl, Nat.sub_self, List.take_add_one, iotaSS_at k rs j r h, List.append_assoc]
  congr 1
  rw [List.drop_eq_getElem_cons hj]
  rfl
set_option maxHeartbeats 400000 in
theorem OwnSS.row {w : World} {base hi : Nat} {A : Option Addr} {rs : List (List Int)} (h : OwnSS w base hi A rs) {j : Nat} {r : List Int} (hr : rs[j]? = some r) :
    ∃ (g off : Nat) (Aj : Option Addr) (cj : Nat), A = some ⟨g, off, none⟩ ∧ base ≤ g ∧ g < w.heap.size ∧ hi ≤ w.heap.size ∧ w.cell? ⟨g, off + j, none⟩ = some (.slice Aj r.length cj) ∧ OwnI w base Aj r ∧
      (r.length = 0 → ∀ r', r'.length = 0 → OwnSS w base hi A (rs.set j r')) ∧
      ∀ (w' : World) (r' : List Int), 0 < r.length → r'.length = r.length → Turned w w' Aj → OwnI w' base Aj r' → OwnSS w' base hi A (rs.set j r') ∧ Moves base hi w w' := by
  have hj : j < rs.length := (List.getElem?_eq_some_iff.1 hr).1
  obtain ⟨g, off, G, rfl, h2, h3, h4, h5, h6⟩ := h (by omega)
  obtain ⟨Aj, cj, q1, q2, q3⟩ := h5 j r hr
  refine ⟨g, off, Aj, cj, rfl, h2, by omega, h4, q1, fun hz => ?_, fun hz r' hr' _ => ?_, fun w' r' hz hl ht ho => ?_⟩
  · obtain ⟨o, e2, p1, p2, p3⟩ := q2 hz
    exact ⟨G j, o, e2, p1, by omega, p3⟩
  · refine ⟨g, off, G, rfl, h2, h3, h4, fun i s hs => ?_, fun a b ha hb => h6 a b (by simpa using ha) (by simpa using hb)⟩
    by_cases e : i = j
    · subst e
      rw [List.getElem?_set_self hj] at hs
      injection hs with hs
      subst hs
      exact ⟨Aj, cj, by rw [q1, hz, hr'], OwnR.none_ hr', q3⟩
    · rw [List.getElem?_set_ne (Ne.symm e)] at hs
      exact h5 i s hs
  · obtain ⟨o, e2, p1, p2, p3⟩ := q2 hz
    subst e2
    have hkeep : ∀ k, k < w.heap.size → k ≠ G j → w'.heap[k]? = w.heap[k]? := fun k hk hne => ht.block k hk fun o2 e => by
      injection e with e
      injection e with e
      omega
    refine ⟨fun _ => ⟨g, off, G, rfl, h2, h3, by rw [ht.size]; exact h4, fun i s hs => ?_, fun a b ha hb => h6 a b (by simpa using ha) (by simpa using hb)⟩,
      ⟨ht.os, ht.tape, ht.output, Nat.le_of_eq ht.size.symm, fun k hk hne => hkeep k hk (by omega)⟩⟩
    by_cases e : i = j
    · subst e
      rw [List.getElem?_set_self hj] at hs
      injection hs with hs
      subst hs
      refine ⟨_, cj, ((World.cell?_of_block (a := ⟨g, off + i, none⟩) (hkeep g (by omega) (Ne.symm q3))).trans q1).trans (by rw [hl]), fun hz' => ?_, q3⟩
      obtain ⟨g2, o2, e3, s1, s2, s3⟩ := ho hz'
      injection e3 with e3
      injection e3 with e4 e5
      subst e4
      subst e5
      exact ⟨_, rfl, p1, p2, s3⟩
    · rw [List.getElem?_set_ne (Ne.symm e)] at hs
      have hil : i < rs.length := (List.getElem?_eq_some_iff.1 hs).1
      obtain ⟨Ai, ci, s1, s2, s3⟩ := h5 i s hs
      refine ⟨Ai, ci, (World.cell?_of_block (a := ⟨g, off + i, none⟩) (hkeep g (by omega) (Ne.symm q3))).trans s1, ?_, s3⟩
      by_cases hz' : 0 < s.length
      · obtain ⟨o2, e3, t1, t2, _⟩ := s2 hz'
        exact s2.keep (hkeep (G i) (by omega) (h6 i j hil hj e))
      · exact OwnR.none_ (by omega)

set_option maxHeartbeats 400000 in
theorem markIntS_nil (A : Option Addr) (c : Nat) (k : Int) (w : World) : Calls Try.prog 41 #[.slice A 0 c, .int .i64 k] w fun e w' => e = .returned (.int .i64 k) ∧ w = w' := by
  go_enter Try.func41, Try.ntmps41
  go_wp2
  go_loop [1, 5] (fun m i => i = .int .i64 0 ∧ m = .int .i64 k) (fun _ _ => 0)
  case atStart => exact ⟨rfl, rfl⟩
  case round =>
    obtain ⟨rfl, rfl⟩ := hrel
    go_wp2
    go_ret
    exact ⟨rfl, rfl⟩
set_option maxHeartbeats 1000000 in
theorem markSS_own (A : Option Addr) (c base hi : Nat) (rs : List (List Int)) (k : Int) (w : World) (hn : rs.length ≤ 1048576) (hl : lens rs ≤ 1048576) (h0 : 0 ≤ k) (h1 : k ≤ 1048576) (hO : OwnSS w base hi A rs) :
    Calls Try.prog 29 #[.slice A rs.length c, .int .i64 k] w fun e w' => e = .returned (.int .i64 (k + lens rs)) ∧ OwnSS w' base hi A (iotaSS k rs) ∧ Moves base hi w w' := by
  have HO := Lib.hid hO
  clear hO
  go_enter Try.func29, Try.ntmps29
  go_wp2
  go_loopw [1, 5] (fun m i wr => ∃ j : Nat, j ≤ rs.length ∧ i = .int .i64 j ∧ m = .int .i64 (k + (lens (rs.take j) : Int)) ∧ OwnSS wr base hi A (markTo k rs j) ∧ Moves base hi w wr) (fun _ i _ => rs.length - (intOf i).toNat)
  case atStart => exact ⟨0, Nat.zero_le _, rfl, by simp [lens], by rw [markTo_zero]; exact HO.out, ⟨rfl, rfl, rfl, Nat.le_refl _, fun _ _ _ => rfl⟩⟩
  case round =>
    obtain ⟨j, hj, rfl, rfl, ho, hmv⟩ := hrel
    have HR := Lib.hid ho
    have HM := Lib.hid hmv
    have hle := lens_take_le rs j
    clear ho hmv
    by_cases hlt : j < rs.length
    · have hrj : rs[j]? = some rs[j] := List.getElem?_eq_getElem hlt
      obtain ⟨r, hr⟩ : ∃ r, rs[j]? = some r := ⟨_, hrj⟩
      clear hrj
      obtain ⟨g, off, Aj, cj, rfl, hg, hgl, hhi, hcl, hoi, hemp, hset⟩ := HR.out.row (markTo_at k rs hr)
      have hrl := len_le_lens hr
      have hsn := lens_snoc hr
      have HT := Lib.hid (markTo_set k rs hr)
      have hi0 : (0 : Int) ≤ (j : Int) := Int.natCast_nonneg _
      have hi1 : (j : Int) < (rs.length : Int) := by omega
      have hk0 : (0 : Int) ≤ k + (lens (rs.take j) : Int) := by omega
      have hk1 : k + (lens (rs.take j) : Int) ≤ 1099511627776 := by omega
      have HSN := Lib.hid (show k + (lens (rs.take j) : Int) + r.length = k + (lens (rs.take (j + 1)) : Int) by omega)
      have hr6 : r.length ≤ 1048576 := by omega
      have HI := Lib.hid hoi
      have HS := Lib.hid hset
      have HE := Lib.hid hemp
      clear hr hsn hoi hset hemp hle hrl
      by_cases hz : 0 < r.length
      · go_wp2_with fail
        refine (markIntS_any _ _ base r _ _ hr6 hk0 hk1 HI.out).mono ?_
        rintro e w2 ⟨rfl, ho2, ht2, _⟩
        obtain ⟨hs1, hs2⟩ := HS.out w2 _ hz (iota_length _ _) ht2 ho2
        rw [HT.out] at hs1
        have HS1 := Lib.hid hs1
        have HM2 : Hid (Moves base hi w w2) := Lib.hid ⟨hs2.os.trans HM.out.os, hs2.tape.trans HM.out.tape, hs2.output.trans HM.out.output, Nat.le_trans HM.out.size hs2.size, fun i hi2 ho => (hs2.block i (Nat.lt_of_lt_of_le hi2 HM.out.size) ho).trans (HM.out.block i hi2 ho)⟩
        clear hs1 hs2 ht2 ho2 hcl
        go_wp2
        exact ⟨⟨j + 1, by omega, by go_num, by rw [HSN.out], HS1.out, HM2.out⟩, by simp [intOf]; omega⟩
      · have hz0 : r.length = 0 := by omega
        have hs1 := HE.out hz0 (iota (k + (lens (rs.take j) : Int)) r.length) (by rw [iota_length]; exact hz0)
        rw [HT.out] at hs1
        have HS1 := Lib.hid hs1
        have HZ := Lib.hid hz0
        rw [hz0] at hcl
        have HSN2 := Lib.hid (show k + (lens (rs.take j) : Int) = k + (lens (rs.take (j + 1)) : Int) by have := HSN.out; omega)
        clear hs1 hz0 hz
        go_wp2_with fail
        refine (markIntS_nil _ _ _ _).mono ?_
        rintro e w2 ⟨rfl, rfl⟩
        go_wp2
        exact ⟨⟨j + 1, by omega, by go_num, by rw [HSN2.out], HS1.out, HM.out⟩, by simp [intOf]; omega⟩
    · have hr2 := HR.out
      rw [markTo_all k rs (by omega)] at hr2
      have HR2 := Lib.hid hr2
      have HLL := Lib.hid (show lens (rs.take j) = lens rs by rw [List.take_of_length_le (by omega)])
      clear hr2
      go_wp2
      go_ret
      exact ⟨ret_intE (by rw [HLL.out]), HR2.out, HM.out⟩
set_option maxHeartbeats 1000000 in
theorem heldSS_any (A : Option Addr) (c B : Nat) (rs : List (List Int)) (k : Int) (w : World) (hn : rs.length ≤ 1048576) (hl : lens rs ≤ 1048576) (h0 : 0 ≤ k) (h1 : k ≤ 1048576) (hS : IntSS w B A (iotaSS k rs)) :
    Calls Try.prog 30 #[.slice A rs.length c, .int .i64 k] w fun e w' => e = .returned (.int .i64 (k + lens rs)) ∧ w = w' := by
  have HS := Lib.hid hS
  have HL := Lib.hid (iotaSS_length k rs)
  clear hS
  go_enter Try.func30, Try.ntmps30
  go_wp2
  go_loop [1, 5] (fun m i => ∃ j : Nat, j ≤ rs.length ∧ i = .int .i64 j ∧ m = .int .i64 (k + (lens (rs.take j) : Int))) (fun _ i => rs.length - (intOf i).toNat)
  case atStart => exact ⟨0, Nat.zero_le _, rfl, by simp [lens]⟩
  case round =>
    obtain ⟨j, hj, rfl, rfl⟩ := hrel
    have hle := lens_take_le rs j
    by_cases hlt : j < rs.length
    · obtain ⟨r, hr⟩ : ∃ r, rs[j]? = some r := ⟨_, List.getElem?_eq_getElem hlt⟩
      obtain ⟨b, off, r2, Aj, cj, rfl, hb, hr2, hcl, hri⟩ := HS.out.at_ (k := j) (by rw [HL.out]; exact hlt)
      rw [iotaSS_at k rs j r hr] at hr2
      injection hr2 with hr2
      subst hr2
      rw [iota_length] at hcl
      have hrl := len_le_lens hr
      have hsn := lens_snoc hr
      have hi0 : (0 : Int) ≤ (j : Int) := Int.natCast_nonneg _
      have hi1 : (j : Int) < (rs.length : Int) := by omega
      have hk0 : (0 : Int) ≤ k + (lens (rs.take j) : Int) := by omega
      have hk1 : k + (lens (rs.take j) : Int) ≤ 1099511627776 := by omega
      have HSN := Lib.hid (show k + (lens (rs.take j) : Int) + r.length = k + (lens (rs.take (j + 1)) : Int) by omega)
      have hr6 : r.length ≤ 1048576 := by omega
      have t0 : decide (k + (lens (rs.take j) : Int) + (r.length : Int) < 0) = false := decide_eq_false (by omega)
      have HI := Lib.hid hri
      clear hr hsn hri hle hrl
      go_wp2_with fail
      refine (heldIntS_any _ _ _ B _ _ hr6 hk0 hk1 HI.out).mono ?_
      rintro e w2 ⟨rfl, rfl⟩
      go_wp2
      exact ⟨⟨j + 1, by omega, by go_num, by rw [HSN.out]⟩, by simp [intOf]; omega⟩
    · have HLL := Lib.hid (show lens (rs.take j) = lens rs by rw [List.take_of_length_le (by omega)])
      go_wp2
      go_ret
      exact ⟨ret_intE (by rw [HLL.out]), rfl⟩
theorem IntSS.wide {w : World} {B B' : Nat} {A : Option Addr} {rs : List (List Int)} (h : IntSS w B A rs) (hB : B ≤ B') : IntSS w B' A rs := h.keep (fun _ _ => rfl) hB
def GivesRows (w : World) (rs : List (List Int)) (e : Ending) (w' : World) : Prop :=
  ∃ (A : Option Addr) (c : Nat), e = .returned (.slice A rs.length c) ∧ IntSS w' w'.heap.size A rs ∧ Below w.heap.size w w'
def GivesSS (w : World) (rs : List (List Int)) (e : Ending) (w' : World) : Prop :=
  ∃ (A : Option Addr) (c : Nat), e = .returned (.slice A rs.length c) ∧ OwnSS w' w.heap.size w'.heap.size A rs ∧ Below w.heap.size w w'
end Go.Proofs.Ytdpojcgeblbfeaa
