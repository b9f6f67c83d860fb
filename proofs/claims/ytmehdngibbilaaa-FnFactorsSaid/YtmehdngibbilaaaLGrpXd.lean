/- The critical group: the program's GroupOrder, GroupFactors, IsCyclic. -/
import Derived.Test.YtmehdngibbilaaaLBQ
import Derived.Test.YtmehdngibbilaaaLSh
namespace Go.Proofs.Ytmehdngibbilaaa
open Go.RowKit Go.Sort Go.Shelf

set_option maxRecDepth 100000 in
set_option maxHeartbeats 1000000 in
theorem implOrdG (N : Int) (A : Option Addr) (c : Nat) (es : List (Int × Int)) (w : World) (hn : es.length ≤ 1048576) (hE : EdgeS w w.heap.size A es) :
    Calls Try.prog 20 #[.agg #[.int .i64 N, .slice A es.length c]] w fun e w' => e = .returned (.int .i64 (treesB N es)) ∧ Below w.heap.size w w' := by
  have HE := Lib.hid hE
  have G0 := GB.start w N A c es
  have HD := fun w h1 => Lib.hid (implTrees N A c es w hn h1)
  clear hE
  go_enter Try.func20, Try.ntmps20
  go_wp2_with fail
  refine (HD _ (HE.out.up_ G0.old)).out.mono ?_
  rintro e w1 ⟨rfl, hb1⟩
  have G1 := Lib.hid (G0.next hb1)
  clear G0 hb1
  go_wp2
  go_ret
  exact ⟨rfl, G1.out.old⟩
theorem triv_any (W : World) (z : Int) : FnGives Try.prog 58 #[] #[.int .i64 z] (.bool (!decide (1 < z))) W := by
  show Calls Try.prog 58 #[.int .i64 z] W fun e w' => e = .returned (.bool (!decide (1 < z))) ∧ ∃ q, w' = W.drewN q
  by_cases h1 : z ≤ 1
  · rw [decide_eq_false (show ¬ 1 < z by omega)]
    have t1 : decide (z ≤ 1) = true := decide_eq_true h1
    clear h1
    go_enter Try.func58, Try.ntmps58
    go_wp2
    go_ret
    exact ⟨rfl, 0, rfl⟩
  · rw [decide_eq_true (show 1 < z by omega)]
    have t1 : decide (z ≤ 1) = false := decide_eq_false h1
    clear h1
    go_enter Try.func58, Try.ntmps58
    go_wp2
    go_ret
    exact ⟨rfl, 0, rfl⟩
theorem triv_enters : ∀ args w, (callFunc 58 args).run Try.prog w = .ok (.enter 58 args) w := enters_of Try.func58 (by kernel_rfl) rfl
theorem put_movesO {α : Type} [Inhabited α] {enc : α → Value} (w : World) (n g o : Nat) (d : Array α) : Moves g (g + 1) w (putRow enc (Sort.ahead w n) g o d) :=
  ⟨rfl, rfl, rfl, by rw [size_putRow]; exact Nat.le_refl _, fun i hi ho => by
    show (w.heap.modify g _)[i]? = w.heap[i]?
    rw [Array.getElem?_modify, if_neg (by omega)]⟩
theorem put_sizeO {α : Type} [Inhabited α] {enc : α → Value} (w : World) (n g o : Nat) (d : Array α) : (putRow enc (Sort.ahead w n) g o d).heap.size = w.heap.size := by rw [size_putRow]; rfl
theorem del_any (A : Option Addr) (c B : Nat) (xs : List Int) (w : World) (hl : xs.length ≤ c) (hn : xs.length ≤ 1048576) (hO : OwnI w B A xs) (hB : B ≤ w.heap.size) :
    Calls Try.prog 57 #[.slice A xs.length c, .func (.func 58) #[] #[]] w fun e w' => ∃ c2, e = .returned (.slice A (xs.filter fun x => decide (1 < x)).length c2) ∧ OwnI w' B A (xs.filter fun x => decide (1 < x)) ∧ Below B w w' := by
  by_cases h0 : 0 < xs.length
  · obtain ⟨g, o, rfl, hg, hlt, hc⟩ := hO h0
    have hH : Holds (fun z : Int => .int .i64 z) w g o xs.toArray := fun j hj => by
      have hj2 : j < xs.length := by simpa using hj
      have h1 := hc j xs[j] (List.getElem?_eq_getElem hj2)
      exact ⟨by rw [h1.1]; simp [getElem!_pos, hj2], h1.2⟩
    have h := Try.slices_DeleteFunc (fun z : Int => .int .i64 z) (fun _ => rfl) (fun z => !decide (1 < z)) 58 #[] triv_enters 0 (fun w => by kernel_rfl) g o c xs.toArray w (fun W x _ => triv_any W x) (fun n os dk x _ => triv_any _ x) hH (by simp; omega) (by simpa using hl)
    simp only [List.size_toArray, Bool.not_not] at h
    refine h.mono ?_
    rintro e w' ⟨rfl, q, rfl⟩
    refine ⟨c, rfl, fun hp => ⟨g, o, rfl, hg, by rw [put_sizeO]; exact hlt, fun i z hz => ?_⟩, belowMoves (Below.refl B w) (put_movesO _ _ _ _ _) hg hB⟩
    have hfl := List.length_filter_le (fun x : Int => decide (1 < x)) xs
    have hil := (List.getElem?_eq_some_iff.1 hz).1
    have hs : ((xs.filter fun x => decide (1 < x)) ++ List.replicate (xs.length - (xs.filter fun x => decide (1 < x)).length) 0).toArray.size = xs.toArray.size := by simp; omega
    have hp := holds_putRow (fun z : Int => .int .i64 z) (Sort.ahead w q) g o xs.toArray _ hH hs i (by rw [hs]; simp; omega)
    refine ⟨hp.1.trans ?_, hp.2⟩
    have : ((xs.filter fun x => decide (1 < x)) ++ List.replicate (xs.length - (xs.filter fun x => decide (1 < x)).length) 0)[i]? = some z := by rw [List.getElem?_append_left hil, hz]
    have hlt := (List.getElem?_eq_some_iff.1 this).1
    rw [getElem!_pos _ _ (by simpa using hlt)]
    have h2 := (List.getElem?_eq_some_iff.1 this).2
    simp only [List.getElem_toArray]
    rw [h2]
  · obtain rfl : xs = [] := by
      cases xs with
      | nil => rfl
      | cons x l => simp at h0
    have HI := Lib.hid (fun W => Try.slices_IndexFunc_empty (α := Int) A c (.func (.func 58) #[] #[]) W)
    clear hl hn h0 hO
    simp only [List.length_nil]
    go_enter Try.func57, Try.ntmps57
    go_wp2_with fail
    refine (HI.out _).mono ?_
    rintro e w1 ⟨rfl, rfl⟩
    go_wp2
    go_ret
    exact ⟨c, rfl, OwnI.nil _ _ _, Below.refl _ _⟩
theorem facC_eq (N : Int) (es : List (Int × Int)) : facC N es = (invB (redB N es 0)).filter fun x => decide (1 < x) := by
  cases h : graphB N es with
  | true => rw [facC_t h]
  | false =>
    rw [facC_f h, redB_f (.inl h)]
    have h2 : invB [] = [] := by
      cases e : matB [] with
      | false => exact invB_f e
      | true =>
        rw [invB_t e]
        refine List.eq_nil_of_length_eq_zero ?_
        rw [natI_len, facB_len, divsB_len]
        rfl
    rw [h2]
    rfl
set_option maxRecDepth 100000 in
set_option maxHeartbeats 2000000 in
theorem implFac (N : Int) (A : Option Addr) (c : Nat) (es : List (Int × Int)) (w : World) (hn : es.length ≤ 1048576) (hE : EdgeS w w.heap.size A es) :
    Calls Try.prog 16 #[.agg #[.int .i64 N, .slice A es.length c]] w (GivesInts w (facC N es)) := by
  have HE := Lib.hid hE
  have G0 := GB.start w N A c es
  rw [facC_eq]
  have HR := fun w h1 => Lib.hid (implRlpC N A c es 0 w hn h1)
  obtain ⟨hr6, hrl⟩ := redB_len (N := N) (es := es) (q := 0)
  obtain ⟨rs, hrs⟩ : ∃ rs, rs = redB N es 0 := ⟨_, rfl⟩
  rw [← hrs] at HR hr6 hrl ⊢
  have HI := Lib.hid (fun (A : Option Addr) (c : Nat) (w : World) hc h => implInvC A c rs w hc (by omega) (fun r hr => by have := hrl r hr; omega) h)
  have hzl := invB_len (rs := rs) (by omega)
  obtain ⟨zs, hzs⟩ : ∃ zs, zs = invB rs := ⟨_, rfl⟩
  rw [← hzs] at HI hzl ⊢
  have HD := Lib.hid (fun (A : Option Addr) (c B : Nat) (w : World) hl hO hB => del_any A c B zs w hl (by omega) hO hB)
  clear hE hrs hzs hr6 hrl hzl hn
  go_enter Try.func16, Try.ntmps16
  go_wp2_with fail
  refine (HR _ (HE.out.up_ G0.old)).out.mono ?_
  rintro e w2 ⟨A2, c2, rfl, hc2, hr2, hb2⟩
  have G2 := Lib.hid (G0.next hb2)
  have HR2 := Lib.hid hr2.ints
  have HC2 := Lib.hid hc2
  clear hr2 hb2 G0 hc2
  go_wp2_with fail
  refine (HI.out _ _ _ HC2.out HR2.out).mono ?_
  rintro e w3 ⟨A3, c3, rfl, hc3, ho3, hb3⟩
  have G3 := Lib.hid (G2.out.next hb3)
  have HO3 := Lib.hid (ho3.mono G2.out.old.size)
  have HC3 := Lib.hid hc3
  clear ho3 hb3 hc3
  go_wp2_with fail
  refine (HD.out _ _ _ _ HC3.out HO3.out G3.out.old.size).mono ?_
  rintro e w4 ⟨c4, rfl, ho4, hb4⟩
  have HO4 := Lib.hid ho4
  have HB4 := Lib.hid (G3.out.old.trans hb4)
  clear ho4 hb4
  go_wp2
  go_ret
  exact ⟨A3, c4, rfl, HO4.out, HB4.out⟩
set_option maxRecDepth 100000 in
set_option maxHeartbeats 2000000 in
theorem implCyc (N : Int) (A : Option Addr) (c : Nat) (es : List (Int × Int)) (w : World) (hn : es.length ≤ 1048576) (hE : EdgeS w w.heap.size A es) :
    Calls Try.prog 22 #[.agg #[.int .i64 N, .slice A es.length c]] w fun e w' => e = .returned (.bool (cycC N es)) ∧ Below w.heap.size w w' := by
  have HE := Lib.hid hE
  have G0 := GB.start w N A c es
  have HD := fun w h1 => Lib.hid (implGraphOk N A c es w (by omega) h1)
  have HFC := fun w h1 => Lib.hid (implFac N A c es w hn h1)
  unfold cycC
  clear hE
  cases h1 : graphB N es with
  | false =>
    rw [h1] at HD
    clear h1
    go_enter Try.func22, Try.ntmps22
    go_wp2_with fail
    refine (HD _ (HE.out.up_ G0.old)).out.mono ?_
    rintro e w1 ⟨rfl, hb1⟩
    have G1 := Lib.hid (G0.next hb1)
    clear G0 hb1
    go_wp2
    go_ret
    exact ⟨ret_boolE rfl, G1.out.old⟩
  | true =>
    rw [h1] at HD
    obtain ⟨L, hL⟩ : ∃ q, q = facC N es := ⟨_, rfl⟩
    rw [← hL] at HFC ⊢
    clear h1 hL
    go_enter Try.func22, Try.ntmps22
    go_wp2_with fail
    refine (HD _ (HE.out.up_ G0.old)).out.mono ?_
    rintro e w1 ⟨rfl, hb1⟩
    have G1 := Lib.hid (G0.next hb1)
    have c0 := G1.out.c0
    have c1 := G1.out.c1
    clear G0 hb1
    go_wp2_with fail
    refine (HFC _ (HE.out.up_ G1.out.old)).out.mono ?_
    rintro e w2 ⟨A2, c2, rfl, -, hb2⟩
    have G2 := Lib.hid (G1.out.next hb2)
    clear hb2 c0 c1
    go_wp2
    go_ret
    exact ⟨ret_boolE (by rw [Bool.true_and, Bool.eq_iff_iff, decide_eq_true_eq, decide_eq_true_eq]; omega), G2.out.old⟩
end Go.Proofs.Ytmehdngibbilaaa
