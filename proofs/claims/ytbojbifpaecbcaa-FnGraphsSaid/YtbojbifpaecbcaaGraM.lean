/- laws.FnGraphs, the plain facts: sums of multiplicities and valences; an edge that is added is found and dropped. -/
import Derived.Test.YtbojbifpaecbcaaAdd
import Derived.Test.YtbojbifpaecbcaaRdM
import Derived.Test.YtbojbifpaecbcaaGraI
namespace Go.Proofs.Ytbojbifpaecbcaa
open Go.RowKit

section
variable {M : Nat} {es : List (Int × Int)}
/-- does the edge join v and w -/
def cntE (v w : Nat) (e : Int × Int) : Int := if v ≠ w ∧ e = (min (v : Int) (w : Int), max (v : Int) (w : Int)) then 1 else 0
def cntL (v w : Nat) : List (Int × Int) → Int
  | [] => 0
  | e :: l => cntE v w e + cntL v w l
theorem mult_cnt {v w : Nat} (hv : v < M) (hw : w < M) : ∀ es : List (Int × Int), multB (M : Int) es (v : Int) (w : Int) = cntL v w es
  | [] => by
    unfold multB cntL
    split <;> simp
  | e :: l => by
    have ih := mult_cnt hv hw l
    unfold multB at ih ⊢
    rw [cntL, ← ih]
    unfold cntE
    by_cases h : v = w
    · subst h
      simp
    · have hc : 0 ≤ (v : Int) ∧ (v : Int) < (M : Int) ∧ 0 ≤ (w : Int) ∧ (w : Int) < (M : Int) ∧ (v : Int) ≠ (w : Int) := by omega
      rw [if_pos hc, if_pos hc, List.count_cons]
      by_cases g : e = (min (v : Int) (w : Int), max (v : Int) (w : Int))
      · have hb : (e == (min (v : Int) (w : Int), max (v : Int) (w : Int))) = true := by rw [g]; exact beq_self_eq_true _
        have hp : v ≠ w ∧ e = (min (v : Int) (w : Int), max (v : Int) (w : Int)) := ⟨h, g⟩
        rw [hb, if_pos rfl, if_pos hp]
        omega
      · have hb : (e == (min (v : Int) (w : Int), max (v : Int) (w : Int))) = false := by simpa using g
        have hp : ¬ (v ≠ w ∧ e = (min (v : Int) (w : Int), max (v : Int) (w : Int))) := fun x => g x.2
        rw [hb, if_neg (by decide), if_neg hp]
        omega
theorem cnt_ind {v w a b : Nat} (hab : a < b) : cntE v w ((a : Int), (b : Int)) = (if v = a then 1 else 0) * ind w (b : Int) + (if v = b then 1 else 0) * ind w (a : Int) := by
  have h : (v ≠ w ∧ ((a : Int), (b : Int)) = (min (v : Int) (w : Int), max (v : Int) (w : Int))) ↔ (v = a ∧ w = b) ∨ (v = b ∧ w = a) := by
    constructor
    · rintro ⟨g1, g2⟩
      injection g2 with g2 g3
      omega
    · rintro (⟨rfl, rfl⟩ | ⟨rfl, rfl⟩)
      · exact ⟨by omega, Prod.ext (by simp only; omega) (by simp only; omega)⟩
      · exact ⟨by omega, Prod.ext (by simp only; omega) (by simp only; omega)⟩
  unfold cntE ind
  by_cases g : (v = a ∧ w = b) ∨ (v = b ∧ w = a)
  · rw [if_pos (h.2 g)]
    split <;> split <;> split <;> split <;> omega
  · rw [if_neg (fun x => g (h.1 x))]
    split <;> split <;> split <;> split <;> omega
def touchI (v : Nat) (e : Int × Int) : Int := if touch (v : Int) e = true then 1 else 0
theorem touch_ind {v a b : Nat} (hab : a < b) : touchI v ((a : Int), (b : Int)) = (if v = a then 1 else 0) + (if v = b then 1 else 0) := by
  unfold touchI touch
  by_cases h1 : v = a
  · subst h1
    rw [if_pos (by simp), if_pos rfl, if_neg (by omega)]
    rfl
  · by_cases h2 : v = b
    · subst h2
      rw [if_pos (by simp), if_neg h1, if_pos rfl]
      rfl
    · rw [if_neg, if_neg h1, if_neg h2]
      · rfl
      · simp only [Bool.or_eq_true, beq_iff_eq]
        omega
def touchL (v : Nat) : List (Int × Int) → Int
  | [] => 0
  | e :: l => touchI v e + touchL v l
theorem val_touch (v : Nat) : ∀ es : List (Int × Int), ((es.filter (touch (v : Int))).length : Int) = touchL v es
  | [] => rfl
  | e :: l => by
    have ih := val_touch v l
    rw [touchL, ← ih, List.filter_cons]
    unfold touchI
    split
    · simp; omega
    · simp
theorem mult_sum {v : Nat} (hv : v < M) : ∀ es : List (Int × Int), (∀ e ∈ es, 0 ≤ e.1 ∧ e.1 < e.2 ∧ e.2 < (M : Int)) → sumV (fun w => cntL v w es) M = touchL v es
  | [], _ => by simp only [cntL, touchL, sumV_const]; omega
  | e :: l, h => by
    obtain ⟨h1, h2, h3⟩ := h e (by simp)
    have ih := mult_sum hv l (fun x hx => h x (by simp [hx]))
    obtain ⟨x, y⟩ := e
    simp only at h1 h2 h3
    obtain ⟨a, rfl⟩ : ∃ a : Nat, x = (a : Int) := ⟨x.toNat, by omega⟩
    obtain ⟨b, rfl⟩ : ∃ b : Nat, y = (b : Int) := ⟨y.toNat, by omega⟩
    simp only [cntL, touchL]
    rw [sumV_add, ih, touch_ind (by omega)]
    have e1 : sumV (fun w => cntE v w ((a : Int), (b : Int))) M = (if v = a then 1 else 0) + (if v = b then 1 else 0) := by
      rw [sumV_congr M (fun w _ => cnt_ind (v := v) (w := w) (show a < b by omega)), sumV_add, sumV_ind (fun _ => if v = a then 1 else 0), sumV_ind (fun _ => if v = b then 1 else 0), if_pos (show b < M by omega), if_pos (show a < M by omega)]
    rw [e1]
theorem touch_sum : ∀ es : List (Int × Int), (∀ e ∈ es, 0 ≤ e.1 ∧ e.1 < e.2 ∧ e.2 < (M : Int)) → sumV (fun v => touchL v es) M = 2 * es.length
  | [], _ => by simp only [touchL, sumV_const]; simp
  | e :: l, h => by
    obtain ⟨h1, h2, h3⟩ := h e (by simp)
    have ih := touch_sum l (fun x hx => h x (by simp [hx]))
    obtain ⟨x, y⟩ := e
    simp only at h1 h2 h3
    obtain ⟨a, rfl⟩ : ∃ a : Nat, x = (a : Int) := ⟨x.toNat, by omega⟩
    obtain ⟨b, rfl⟩ : ∃ b : Nat, y = (b : Int) := ⟨y.toNat, by omega⟩
    simp only [touchL]
    rw [sumV_add, ih]
    have e1 : sumV (fun v => touchI v ((a : Int), (b : Int))) M = 2 := by
      rw [sumV_congr M (g := fun v => 1 * ind v (a : Int) + 1 * ind v (b : Int)) (fun v _ => by
        rw [touch_ind (show a < b by omega)]
        unfold ind
        by_cases g1 : v = a
        · by_cases g2 : v = b
          · omega
          · rw [if_pos g1, if_neg g2, if_pos (by omega), if_neg (by omega)]; rfl
        · by_cases g2 : v = b
          · rw [if_neg g1, if_pos g2, if_neg (by omega), if_pos (by omega)]; rfl
          · rw [if_neg g1, if_neg g2, if_neg (by omega), if_neg (by omega)]; rfl), sumV_add, sumV_ind (fun _ => 1), sumV_ind (fun _ => 1), if_pos (by omega), if_pos (by omega)]
      rfl
    rw [e1, List.length_cons]
    omega
theorem row_sum (hg : graphB (M : Int) es = true) {v : Nat} (hv : v < M) : sumV (fun w => multB (M : Int) es (v : Int) (w : Int)) M = valB (M : Int) es (v : Int) := by
  rw [sumV_congr M (fun w hw => mult_cnt hv hw es), mult_sum hv es (fun e he => all_edge (graphB_all hg).1 he), ← val_touch, valB_yes (vB_t (by omega))]
theorem val_sum (hg : graphB (M : Int) es = true) : sumV (fun v => valB (M : Int) es (v : Int)) M = 2 * es.length := by
  rw [sumV_congr M (g := fun v => touchL v es) (fun v hv => by rw [valB_yes (vB_t (by omega)), val_touch])]
  exact touch_sum es (fun e he => all_edge (graphB_all hg).1 he)
/-- an edge that was added is found first where it was put -/
theorem first_low {e : Int × Int} {i : Nat} (hi : (insAt es (lowE es e) e)[i]? = some e) (hf : ∀ j, j < i → (insAt es (lowE es e) e)[j]? ≠ some e) : i = lowE es e := by
  have hle := lowE_le es e
  have hl : (es.take (lowE es e)).length = lowE es e := by rw [List.length_take]; omega
  have hat : (insAt es (lowE es e) e)[lowE es e]? = some e := by
    unfold insAt
    rw [List.getElem?_append_right (by omega), hl, Nat.sub_self]
    rfl
  rcases Nat.lt_trichotomy i (lowE es e) with h | h | h
  · exfalso
    unfold insAt at hi
    rw [List.getElem?_append_left (by omega), List.getElem?_take_of_lt h] at hi
    have h1 := List.not_of_lt_findIdx h
    have hil := (List.getElem?_eq_some_iff.1 hi).1
    rw [List.getElem?_eq_getElem hil] at hi
    injection hi with hi
    rw [hi, ltE_irr] at h1
    simp at h1
  · exact h
  · exact absurd hat (hf _ h)
theorem erase_ins {i : Nat} {e : Int × Int} (hi : i ≤ es.length) : (insAt es i e).eraseIdx i = es := by
  have hl : (es.take i).length = i := by rw [List.length_take]; omega
  unfold insAt
  rw [List.eraseIdx_append_of_length_le (by omega), hl, Nat.sub_self, List.eraseIdx_cons_zero, List.take_append_drop]
/-- what the law asks of the graph with one more edge -/
structure GraLaw (M : Nat) (es L : List (Int × Int)) : Prop where
  k : addK (M : Int) es ((M : Int) - 1) 0 = true
  l : addL (M : Int) es ((M : Int) - 1) 0 = L
  len : L.length = es.length + 1
  gr : graphB (M : Int) L = true
  gen : genusB (M : Int) L = genusB (M : Int) es + 1
  mem : (0, (M : Int) - 1) ∈ L
  drop : ∀ i : Nat, L[i]? = some (0, (M : Int) - 1) → (∀ j, j < i → L[j]? ≠ some (0, (M : Int) - 1)) → dropK (M : Int) L (i : Int) = true ∧ dropL (M : Int) L (i : Int) = es
theorem graLaw (hg : graphB (M : Int) es = true) (hM2 : 2 ≤ M) (hel : es.length ≤ 8) : GraLaw M es (insE es (0, (M : Int) - 1)) := by
  have hk : addK (M : Int) es ((M : Int) - 1) 0 = true := by
    have h1 : ¬ ((M : Int) - 1 = 0) := by omega
    simp [addK, hg, vB_t (v := (M : Int) - 1) (N := (M : Int)) ⟨by omega, by omega⟩, vB_t (v := 0) (N := (M : Int)) ⟨by omega, by omega⟩, h1]
    omega
  have he : edgeOf ((M : Int) - 1) 0 = (0, (M : Int) - 1) := by
    unfold edgeOf
    rw [Int.min_eq_right (by omega), Int.max_eq_left (by omega)]
  have hs : Srt es := ordB_srt (by
    have := hg
    simp only [graphB, Bool.and_eq_true] at this
    exact this.1.2)
  have hv := add_valid hk
  rw [he] at hv
  have hln := insE_len es (0, (M : Int) - 1)
  refine ⟨hk, by rw [(add_yes hk).2, he], hln, hv, ?_, ?_, ?_⟩
  · rw [genusB_t hv, genusB_t hg, hln]
    omega
  · exact insE_mem.2 (.inl rfl)
  · intro i hi hf
    rw [← ins_low hs] at hi hf hv ⊢
    have h1 := first_low hi hf
    have h2 := erase_ins (es := es) (e := (0, (M : Int) - 1)) (lowE_le es (0, (M : Int) - 1))
    have hil := (List.getElem?_eq_some_iff.1 hi).1
    have hd : dropK (M : Int) (insAt es (lowE es (0, (M : Int) - 1)) (0, (M : Int) - 1)) (i : Int) = true := by
      unfold dropK
      rw [Int.toNat_natCast, hv, h1, h2, hg]
      rw [h1] at hil
      simp
      omega
    refine ⟨hd, ?_⟩
    rw [(drop_yes hd).2, Int.toNat_natCast, h1, h2]
end
end Go.Proofs.Ytbojbifpaecbcaa
