/- laws.FnWords: for every code the call returns true, and the code reads afterwards as it read before, where the listed variables of the library hold what the program's text lays in them (the card ties them). -/
import Derived.Test.YtbmihbbpdmpmpaaDoorParLaw
import Derived.Test.YtbmihbbpdmpmpaaDoorWordW
import Derived.Deep.Slices
import Derived.ChangeSlices
import Derived.OpenShut
namespace Go.Proofs.YtbmihbbpdmpmpaaDoor
open Go.ChangeShapes Go.WideShapes Go.ChangeAt Go.RowKit Go.WideElems Go.Deep

section
variable {H : Type} {enc : TypeId × Value → H} {W : World} {base : Nat}
theorem row_memC (a : Addr) (n i : Nat) (h : i < n) : MemPlace.cell a.block (a.off + i) ∈ MemPlace.row a n := by
  simp only [MemPlace.row, List.mem_map, List.mem_range]
  exact ⟨i, h, rfl⟩
theorem spot_noneC {w : World} {a : Addr} {v : Value} (h : w.cell? (a.add 0) = some v) : ∃ b off, a = ⟨b, off, none⟩ := by
  have hs := World.cell?_spot h
  have hs' : a.spot = none := by simpa [Addr.add] using hs
  obtain ⟨b, off, sp⟩ := a
  simp only at hs'
  subst hs'
  exact ⟨b, off, rfl⟩
set_option maxRecDepth 100000 in
theorem open_code {r : Reach} {b0 : Nat} {v : Value} {d : DataW H} {p : List MemPlace} (hv : Value.okWide Tryd.prog W r b0 27 v) (h : DataW.Trod enc Tryd.prog W base (fun _ => true) true 27 v d p)
    (hlt : ∀ x ∈ p, x.block < W.heap.size) : ∃ (A : Option Addr) (c : Nat) (zs : List Int), v = .slice A zs.length c ∧ zs.length ≤ 9223372036854775807 ∧ CodeS W W.heap.size A zs := by
  obtain ⟨fuel, hf⟩ := h
  obtain ⟨A0, n0, c0, rfl⟩ := okWide_slice Tryd.underlying27 hv
  rcases open_ints Tryd.underlying27 Tryd.underlying5 (by kernel_rfl) hf with ⟨e1, _⟩ | ⟨a, len, cap, zs, e1, hb, hl, hm, hlen, hx, hcell, hwf⟩
  · have e2 : Value.slice A0 n0 c0 = .slice none 0 0 := by
      have := congrArg (fun l => l[0]?) e1
      simpa [Value.cells] using this
    injection e2 with e3 e4 e5
    subst e3
    subst e4
    subst e5
    exact ⟨none, 0, [], rfl, by simp, by simp, fun hn => absurd hn (by simp)⟩
  · have e2 : Value.slice A0 n0 c0 = .slice (some a) len cap := by
      have := congrArg (fun l => l[0]?) e1
      simpa [Value.cells] using this
    injection e2 with e3 e4 e5
    subst e3
    subst e4
    subst e5
    simp only [Prod.mk.injEq] at hx
    have hls : n0 ≤ zs.length := by rw [hlen]; split <;> omega
    have htl : (zs.take n0).length = n0 := by rw [List.length_take]; omega
    refine ⟨some a, c0, zs.take n0, by rw [htl], ?_, fun x hx2 => bounds_u8 (hwf x (List.mem_of_mem_take hx2)), ?_⟩
    · rw [htl]
      unfold maxLen at hm
      omega
    · intro hn
      rw [htl] at hn
      obtain ⟨b, off, rfl⟩ := spot_noneC (hcell 0 (by omega))
      refine ⟨b, off, rfl, ?_, ?_⟩
      · exact hlt (MemPlace.cell b (off + 0)) (by
          rw [hx.2]
          exact row_memC ⟨b, off, none⟩ zs.length 0 (by omega))
      · intro i x he
        have hil : i < n0 := by
          have := (List.getElem?_eq_some_iff.1 he).1
          omega
        have h1 := hcell i (by omega)
        rw [List.getElem?_take_of_lt hil] at he
        rw [add_plain] at h1
        rw [h1]
        simp [List.getD, he]
end
set_option maxRecDepth 100000 in
theorem fnWords_lifted (os : Os) (started : os.Started) (H : Type) (enc : TypeId × Value → H) :
    ReturnsInHanded {} Tryd.checked os 5 .any (fun w args => (Rows.fnWordsSpec.pre enc Tryd.prog Tryd.f5 [] false w args ∧ laidMetH Tryd.prog laid5 w) ∧ sizedMet enc Tryd.prog Tryd.f5 (OpenSpec.ofChange Rows.fnWordsSpec) false w args)
      (Rows.fnWordsSpec.post enc Tryd.prog Tryd.f5 false true false false) := by
  refine law_lifted_laid (C := Tryd.checked) Tryd.own started (by kernel_rfl) Tryd.func5 Tryd.laidOut (by kernel_rfl) (tb := 4) rfl (by kernel_rfl) rfl
    (ChangeSpec.witness_shaped (enc := enc) (C := Tryd.checked) (os := os) (X := fun w _ => laidMetH Tryd.prog laid5 w) false (World.doorLaid Tryd.prog 400 os) #[.slice none 0 0] 8 rfl (World.shaped_of_RefB (by kernel_rfl) (by kernel_rfl)) (by kernel_rfl) (by kernel_rfl) (by kernel_rfl) (door_met5 os _)) ?_ ?_
  · intro ds h
    match ds, h with
    | [d0], _ => rfl
  · intro W base args ds ps hval hA hlt hL
    have hA1 : DataW.TrodAll enc Tryd.prog W 0 (fun _ => true) true Tryd.f5.params.toList args.toList ds ps := hA
    have hv1 : ∀ (j : Nat) t v, Tryd.f5.params[j]? = some t → args[j]? = some v → Value.okWide Tryd.prog W .any base t v := hval
    rw [Tryd.params5] at hA1 hv1
    obtain ⟨v0, d0, rfl, rfl, h0⟩ := trodAll_one hA1
    obtain ⟨A0, c0, xs0, rfl, hl0, hc0⟩ := open_code (hv1 0 27 v0 rfl rfl) h0 (fun x hx => hlt x (by simpa using hx))
    rw [MakeChecks.laidMetH_plain _ _ _ (by kernel_rfl)] at hL
    obtain ⟨t2, p2, e2⟩ := sent_of (n := "strconv.ErrRange") (g := 1) (by kernel_rfl) (by kernel_rfl) hL.tail.tail.tail
    obtain ⟨t1, p1, e1⟩ := sent_of (n := "strconv.ErrSyntax") (g := 0) (by kernel_rfl) (by kernel_rfl) hL.tail.tail.tail.tail
    exact lawWords A0 c0 xs0 W hl0 hc0 (tab_of5 hL) t1 t2 p1 p2 e1 e2
theorem fnWords_holds : Rows.FnWordsSaid :=
  OpenClaim.holds_of_wide 5 Tryd.f5 rfl rfl rfl rfl rfl rfl rfl ⟨rfl, rfl, rfl, rfl, rfl⟩ rfl rfl rfl rfl rfl (by kernel_rfl) Tryd.func5 (by kernel_rfl)
    (of_decide_eq_true (by kernel_rfl)) (by unfold Func.isWrapper; first | (rw [if_pos (by decide +kernel)]; kernel_rfl) | (rw [if_neg (by decide +kernel)]; exact ⟨rfl, rfl⟩))
    (fun os started H enc _ => fnWords_lifted os started H enc)
theorem fnWords_card : Rows.FnWordsCardSaid :=
  Claim7.holds_tied_plain_at .later [] [.data, .data, .data, .sentinel, .sentinel] true (true, Rows.fnWordsCard.stood.harness.2) true
    fnWords_holds (fun _ h => by cases h) (by kernel_rfl) (fun _ h => by cases h) fnWords_row_tie rfl ⟨rfl, rfl⟩ (by kernel_rfl) rfl
    (fun f fn hf hfn => by
      obtain rfl : f = 5 := Option.some.inj ((show Tryd.prog.funcNamed "loop.example/g00841/laws.FnWords" = some 5 by kernel_rfl).symm.trans hf) |>.symm
      obtain rfl : fn = Tryd.f5 := (Option.some.inj (Tryd.func5.symm.trans hfn)).symm
      exact ⟨by kernel_rfl, fun j t ht => by
        rw [Tryd.params5] at ht
        have hm : t ∈ [27] := by simpa using Array.mem_of_getElem? ht
        have hall : ([27].all fun u => !Tryd.prog.wantsStandIn u) = true := by kernel_rfl
        exact (show Tryd.prog.wantsStandIn t = false by simpa using List.all_eq_true.1 hall t hm)⟩)
    (by kernel_rfl)
end Go.Proofs.YtbmihbbpdmpmpaaDoor
