/- One text out of several: AlgA AlgB AlgC AlgD AlgE AlgF LapQ GrpA BurnO GrpB GrpD RieM. -/
import Derived.Test.YtdpojcgeblbfeaaVBD
import Derived.Test.YtdpojcgeblbfeaaVBG
set_option linter.all false
/- Determinants, on: linear in each row; the order of the rows; equal rows; expansion along the first column; the transposed one. -/
namespace Go.Proofs.Ytdpojcgeblbfeaa

abbrev RowF := Nat → Int
def addR (r s : RowF) (c : Int) : RowF := fun j => r j + c * s j
theorem det_add (c : Int) (r s : RowF) : ∀ (R1 R2 : List RowF) (C : List Nat), detF (R1 ++ addR r s c :: R2) C = detF (R1 ++ r :: R2) C + c * detF (R1 ++ s :: R2) C
  | [], R2, C => by
    simp only [List.nil_append, detF]
    rw [← sumN_mul, ← sumN_add]
    refine sumN_congr _ fun i _ => ?_
    unfold addR
    grind
  | t :: R1, R2, C => by
    simp only [List.cons_append, detF]
    rw [← sumN_mul, ← sumN_add]
    refine sumN_congr _ fun i _ => ?_
    rw [det_add c r s R1 R2]
    grind
theorem det_congr : ∀ {R R' : List RowF} {C : List Nat}, R.length = R'.length → (∀ (i : Nat) (r r' : RowF), R[i]? = some r → R'[i]? = some r' → ∀ j ∈ C, r j = r' j) → R.length = C.length → detF R C = detF R' C
  | [], [], C, _, _, _ => rfl
  | [], _ :: _, _, h, _, _ => by simp at h
  | _ :: _, [], _, h, _, _ => by simp at h
  | r :: R, r' :: R', C, h, hE, hl => by
    simp only [detF]
    refine sumN_congr _ fun i hi => ?_
    have h1 : C.getD i 0 ∈ C := by simp [List.getD, List.getElem?_eq_getElem hi]
    rw [hE 0 r r' rfl rfl _ h1, det_congr (R := R) (R' := R') (by simpa using h) (fun k a b ha hb j hj => hE (k + 1) a b ha hb j (List.mem_of_mem_eraseIdx hj)) (by rw [List.length_eraseIdx_of_lt hi]; simp at hl; omega)]
/-! ### the order of the rows -/
def term3 (r s : RowF) (D : List Nat → Int) (C : List Nat) (a b : Nat) : Int :=
  if a = b then 0 else if b < a then sgn a * r (C.getD a 0) * (sgn b * s (C.getD b 0) * D ((C.eraseIdx a).eraseIdx b))
  else sgn a * r (C.getD a 0) * (sgn (b - 1) * s (C.getD b 0) * D ((C.eraseIdx a).eraseIdx (b - 1)))
theorem term3_swap (r s : RowF) (D : List Nat → Int) (C : List Nat) (a b : Nat) : term3 r s D C a b = - term3 s r D C b a := by
  unfold term3
  rcases Nat.lt_trichotomy a b with h | h | h
  · rw [if_neg (by omega), if_neg (by omega), if_neg (by omega), if_pos h, erase_comm C h]
    obtain ⟨k, rfl⟩ : ∃ k, b = k + 1 := ⟨b - 1, by omega⟩
    rw [Nat.add_sub_cancel, sgn_succ]
    grind
  · rw [if_pos h, if_pos h.symm]
    rfl
  · rw [if_neg (by omega), if_pos h, if_neg (by omega), if_neg (by omega), erase_comm C h]
    obtain ⟨k, rfl⟩ : ∃ k, a = k + 1 := ⟨a - 1, by omega⟩
    rw [Nat.add_sub_cancel, sgn_succ]
    grind
theorem det_two (r s : RowF) (R : List RowF) (C : List Nat) : detF (r :: s :: R) C = sumN C.length fun a => sumN C.length fun b => term3 r s (detF R) C a b := by
  rw [detF]
  refine sumN_congr _ fun a ha => ?_
  obtain ⟨n, hn⟩ : ∃ n, C.length = n + 1 := ⟨C.length - 1, by omega⟩
  have hCe : (C.eraseIdx a).length = n := by rw [erase_len ha]; omega
  rw [detF, hCe, hn, ← sumN_mul, sumN_skip (fun b => term3 r s (detF R) C a b) (a := a) n (by omega)]
  have h0 : term3 r s (detF R) C a a = 0 := by rw [term3, if_pos rfl]
  rw [h0, Int.add_zero]
  refine sumN_congr _ fun j _ => ?_
  rw [getD_erase]
  unfold term3
  by_cases h : j < a
  · have hs : skip a j = j := by rw [skip, if_pos h]
    rw [hs, if_neg (by omega), if_pos h]
  · have hs : skip a j = j + 1 := by rw [skip, if_neg h]
    rw [hs, if_neg (by omega), if_neg (by omega), Nat.add_sub_cancel]
theorem sumN_neg (f : Nat → Int) : ∀ n, sumN n (fun i => - f i) = - sumN n f := fun n => by
  have := sumN_mul (-1) f n
  simpa using this
theorem det_swap0 (r s : RowF) (R : List RowF) (C : List Nat) : detF (r :: s :: R) C = - detF (s :: r :: R) C := by
  rw [det_two, det_two, sumN_swap, ← sumN_neg]
  refine sumN_congr _ fun a _ => ?_
  rw [← sumN_neg]
  exact sumN_congr _ fun b _ => term3_swap r s _ C b a
theorem det_perm {R R' : List RowF} (h : R.Perm R') : ∃ s : Int, (s = 1 ∨ s = -1) ∧ ∀ C, detF R' C = s * detF R C := by
  induction h with
  | nil => exact ⟨1, .inl rfl, fun C => by rw [Int.one_mul]⟩
  | cons x _ ih =>
    obtain ⟨s, h1, h2⟩ := ih
    refine ⟨s, h1, fun C => ?_⟩
    simp only [detF]
    rw [← sumN_mul]
    refine sumN_congr _ fun i _ => ?_
    rw [h2]
    grind
  | swap x y l => exact ⟨-1, .inr rfl, fun C => by rw [det_swap0]; omega⟩
  | trans _ _ ih1 ih2 =>
    obtain ⟨s, h1, h2⟩ := ih1
    obtain ⟨t, h3, h4⟩ := ih2
    refine ⟨t * s, ?_, fun C => by rw [h4, h2, Int.mul_assoc]⟩
    rcases h1 with rfl | rfl <;> rcases h3 with rfl | rfl <;> simp
theorem det_dup {r : RowF} {R R' : List RowF} (h : R.Perm (r :: r :: R')) (C : List Nat) : detF R C = 0 := by
  obtain ⟨s, h1, h2⟩ := det_perm h.symm
  have := det_swap0 r r R' C
  rw [h2, show detF (r :: r :: R') C = 0 by omega, Int.mul_zero]
/-! ### the first column -/
theorem sumN_first (f : Nat → Int) : ∀ n, sumN (n + 1) f = f 0 + sumN n (fun i => f (i + 1))
  | 0 => by simp [sumN]
  | n + 1 => by rw [sumN, sumN_first f n, sumN]; omega
def zeroR : RowF := fun _ => 0
theorem det_col : ∀ (n : Nat) (R : List RowF) (c : Nat) (C : List Nat), R.length = n → R.length = C.length + 1 → detF R (c :: C) = sumN R.length fun i => sgn i * (R.getD i zeroR) c * detF (R.eraseIdx i) C
  | 0, R, c, C, hn, hl => by omega
  | n + 1, [], c, C, hn, hl => by simp at hn
  | n + 1, r :: R, c, C, hn, hl => by
    have hR : R.length = C.length := by simpa using hl
    have hRn : R.length = n := by simpa using hn
    rw [detF, List.length_cons, sumN_first, List.length_cons, sumN_first]
    have e0 : sgn 0 = 1 := rfl
    simp only [List.getD_cons_zero, List.eraseIdx_cons_zero, List.getD_cons_succ, List.eraseIdx_cons_succ]
    congr 1
    have l1 : ∀ b, b < C.length → sgn (b + 1) * r (C.getD b 0) * detF R (c :: C.eraseIdx b) = sumN R.length fun i => sgn (b + 1) * r (C.getD b 0) * (sgn i * (R.getD i zeroR) c * detF (R.eraseIdx i) (C.eraseIdx b)) := fun b hb => by
      rw [det_col n R c (C.eraseIdx b) hRn (by rw [erase_len hb]; omega), sumN_mul]
    rw [sumN_congr _ l1]
    have l2 : ∀ i, i < R.length → sgn (i + 1) * (R.getD i zeroR) c * detF (r :: R.eraseIdx i) C = sumN C.length fun b => sgn (i + 1) * (R.getD i zeroR) c * (sgn b * r (C.getD b 0) * detF (R.eraseIdx i) (C.eraseIdx b)) := fun i _ => by
      rw [detF, sumN_mul]
    rw [sumN_congr (f := fun i => sgn (i + 1) * (R.getD i zeroR) c * detF (r :: R.eraseIdx i) C) _ l2, sumN_swap]
    refine sumN_congr _ fun i _ => sumN_congr _ fun b _ => ?_
    rw [sgn_succ, sgn_succ]
    grind
def tr (f : Nat → Nat → Int) : Nat → Nat → Int := fun i j => f j i
theorem map_erase {α β : Type} (f : α → β) : ∀ (l : List α) (i : Nat), (l.map f).eraseIdx i = (l.eraseIdx i).map f
  | [], _ => rfl
  | _ :: _, 0 => rfl
  | x :: l, i + 1 => by simp [map_erase f l i]
theorem det_tr (f : Nat → Nat → Int) : ∀ (n : Nat) (I J : List Nat), I.length = n → J.length = n → detF (J.map (tr f)) I = detF (I.map f) J
  | 0, I, J, hI, hJ => by
    obtain rfl : I = [] := List.length_eq_zero_iff.1 hI
    obtain rfl : J = [] := List.length_eq_zero_iff.1 hJ
    rfl
  | n + 1, I, [], hI, hJ => by simp at hJ
  | n + 1, I, j :: J, hI, hJ => by
    have hJn : J.length = n := by simpa using hJ
    rw [List.map_cons, detF, det_col (n + 1) (I.map f) j J (by simpa using hI) (by simp [hI, hJn]), List.length_map]
    refine sumN_congr _ fun i hi => ?_
    rw [det_tr f n (I.eraseIdx i) J (by rw [erase_len hi]; omega) hJn, map_erase]
    have : (I.map f).getD i zeroR = f (I.getD i 0) := by
      simp [List.getD, List.getElem?_eq_getElem hi]
    rw [this]
    rfl
end Go.Proofs.Ytdpojcgeblbfeaa

/- The greatest common divisor of all minors of one size: whichever lists of rows and columns; it stands under elementary turns. -/
namespace Go.Proofs.Ytdpojcgeblbfeaa

def mnr (f : Nat → Nat → Int) (I J : List Nat) : Int := detF (I.map f) J
def DvK (n : Nat) (f : Nat → Nat → Int) (k : Nat) (d : Int) : Prop := ∀ I J : List Nat, I.length = k → J.length = k → (∀ i ∈ I, i < n) → (∀ j ∈ J, j < n) → d ∣ mnr f I J
theorem filter_subl {α : Type} (p : α → Bool) : ∀ l : List α, l.filter p ∈ subl l
  | [] => by simp [subl]
  | x :: l => by
    rw [List.filter_cons, subl]
    split
    · exact List.mem_append_right _ (List.mem_map_of_mem (filter_subl p l))
    · exact List.mem_append_left _ (filter_subl p l)
theorem sorted_of {n : Nat} (hn : n ≤ 6) {I : List Nat} (hd : I.Nodup) (hI : ∀ i ∈ I, i < n) : ∃ S ∈ setsB n I.length, I.Perm S := by
  have hp : I.Perm ((List.range n).filter fun i => decide (i ∈ I)) := (List.perm_ext_iff_of_nodup hd (List.nodup_range.filter _)).2 fun a => by
    simp only [List.mem_filter, List.mem_range, decide_eq_true_eq]
    exact ⟨fun h => ⟨hI a h, h⟩, fun h => h.2⟩
  refine ⟨_, ?_, hp⟩
  rw [hp.length_eq]
  exact subl_sets n hn _ (filter_subl _ _)
theorem dup_or : ∀ I : List Nat, I.Nodup ∨ ∃ a I', I.Perm (a :: a :: I')
  | [] => .inl List.nodup_nil
  | a :: I => by
    by_cases h : a ∈ I
    · exact .inr ⟨a, I.erase a, (List.perm_cons_erase h).cons a⟩
    · rcases dup_or I with h1 | ⟨b, I', h1⟩
      · exact .inl (List.nodup_cons.2 ⟨h, h1⟩)
      · exact .inr ⟨b, a :: I', (h1.cons a).trans ((List.Perm.swap b a _).trans ((List.Perm.swap b a _).cons b))⟩
theorem mnr_perm {f : Nat → Nat → Int} {I I' J : List Nat} (h : I.Perm I') {d : Int} (hd : d ∣ mnr f I J) : d ∣ mnr f I' J := by
  obtain ⟨s, -, h2⟩ := det_perm (h.map f)
  unfold mnr at *
  rw [h2]
  exact Int.dvd_trans hd (Int.dvd_mul_left _ _)
theorem mnr_dup {f : Nat → Nat → Int} {I I' J : List Nat} {a : Nat} (h : I.Perm (a :: a :: I')) : mnr f I J = 0 := det_dup (h.map f) J
theorem mnr_rows {n k : Nat} (hn : n ≤ 6) {f : Nat → Nat → Int} {J : List Nat} {d : Int} (h : ∀ S ∈ setsB n k, d ∣ mnr f S J) (I : List Nat) (hl : I.length = k) (hI : ∀ i ∈ I, i < n) : d ∣ mnr f I J := by
  rcases dup_or I with h1 | ⟨a, I', h1⟩
  · obtain ⟨S, hS, hp⟩ := sorted_of hn h1 hI
    rw [hl] at hS
    exact mnr_perm hp.symm (h S hS)
  · rw [mnr_dup h1]
    exact Int.dvd_zero _
theorem mnr_tr (f : Nat → Nat → Int) {I J : List Nat} (h : I.length = J.length) : mnr (tr f) J I = mnr f I J := det_tr f J.length I J h rfl
theorem dvk_sets {n k : Nat} (hn : n ≤ 6) (hk : k ≤ 6) {f : Nat → Nat → Int} {d : Nat} : d ∣ gSets n f k ↔ DvK n f k (d : Int) := by
  unfold gSets
  rw [dvd_gcdL]
  constructor
  · rintro ⟨-, h⟩ I J hI hJ hIn hJn
    have h1 : ∀ S ∈ setsB n k, ∀ T ∈ setsB n k, (d : Int) ∣ mnr f S T := fun S hS T hT => Int.ofNat_dvd_left.2 (h _ (List.mem_flatMap.2 ⟨S, hS, List.mem_map_of_mem hT⟩))
    have h2 : ∀ T ∈ setsB n k, (d : Int) ∣ mnr f I T := fun T hT => mnr_rows hn (fun S hS => h1 S hS T hT) I hI hIn
    rw [← mnr_tr f (by omega)]
    exact mnr_rows hn (fun T hT => by rw [mnr_tr f (by rw [hI, ((sets_size n hn k hk).2 T hT).1])]; exact h2 T hT) J hJ hJn
  · intro h
    refine ⟨Nat.dvd_zero d, fun x hx => ?_⟩
    obtain ⟨S, hS, hx⟩ := List.mem_flatMap.1 hx
    obtain ⟨T, hT, rfl⟩ := List.mem_map.1 hx
    obtain ⟨s1, s2, -⟩ := (sets_size n hn k hk).2 S hS
    obtain ⟨t1, t2, -⟩ := (sets_size n hn k hk).2 T hT
    exact Int.ofNat_dvd_left.1 (h S T s1 t1 s2 t2)
/-! ### elementary turns -/
def clearR (f : Nat → Nat → Int) (p : Nat) (c : Nat → Int) : Nat → Nat → Int := fun i => addR (f i) (f p) (c i)
theorem dvk_clear {n k p : Nat} (hp : p < n) {f : Nat → Nat → Int} {c : Nat → Int} {d : Int} (h : DvK n f k d) : DvK n (clearR f p c) k d := by
  have key : ∀ (I2 I1 J : List Nat), I1.length + I2.length = k → J.length = k → (∀ i ∈ I1, i < n) → (∀ i ∈ I2, i < n) → (∀ j ∈ J, j < n) → d ∣ detF (I1.map f ++ I2.map (clearR f p c)) J := by
    intro I2
    induction I2 with
    | nil => 
      intro I1 J h1 h2 h3 _ h5
      have := h I1 J (by simpa using h1) h2 h3 h5
      unfold mnr at this
      simpa using this
    | cons i I2 ih =>
      intro I1 J h1 h2 h3 h4 h5
      rw [List.map_cons, show clearR f p c i = addR (f i) (f p) (c i) from rfl, det_add]
      have g : ∀ q, q < n → d ∣ detF (I1.map f ++ f q :: I2.map (clearR f p c)) J := fun q hq => by
        have := ih (I1 ++ [q]) J (by simp at h1 ⊢; omega) h2 (fun i hi => by
          rcases List.mem_append.1 hi with x | x
          · exact h3 i x
          · rw [List.mem_singleton] at x; omega) (fun i hi => h4 i (List.mem_cons_of_mem _ hi)) h5
        simpa using this
      exact Int.dvd_add (g i (h4 i (by simp))) (Int.dvd_trans (g p hp) (Int.dvd_mul_left _ _))
  intro I J h1 h2 h3 h4
  have := key I [] J (by simpa using h1) h2 (by simp) h3 h4
  unfold mnr
  simpa using this
theorem clear_clear {f : Nat → Nat → Int} {p : Nat} {c : Nat → Int} (hc : c p = 0) : clearR (clearR f p c) p (fun i => - c i) = f := by
  funext i j
  simp only [clearR, addR, hc]
  grind
def swpN (p q i : Nat) : Nat := if i = p then q else if i = q then p else i
theorem swpN_lt {p q i n : Nat} (hp : p < n) (hq : q < n) (hi : i < n) : swpN p q i < n := by unfold swpN; split <;> (try split) <;> omega
theorem swpN_swpN (p q i : Nat) : swpN p q (swpN p q i) = i := by unfold swpN; split <;> (try split) <;> (try split) <;> omega
def swapR (f : Nat → Nat → Int) (p q : Nat) : Nat → Nat → Int := fun i => f (swpN p q i)
theorem dvk_swap {n k p q : Nat} (hp : p < n) (hq : q < n) {f : Nat → Nat → Int} {d : Int} (h : DvK n f k d) : DvK n (swapR f p q) k d := fun I J h1 h2 h3 h4 => by
  have := h (I.map (swpN p q)) J (by simpa using h1) h2 (fun i hi => by
    obtain ⟨x, hx, rfl⟩ := List.mem_map.1 hi
    exact swpN_lt hp hq (h3 x hx)) h4
  unfold mnr at *
  rw [List.map_map] at this
  exact this
theorem swap_swap (f : Nat → Nat → Int) (p q : Nat) : swapR (swapR f p q) p q = f := by
  funext i
  simp only [swapR, swpN_swpN]
def Sm (n : Nat) (f g : Nat → Nat → Int) : Prop := ∀ k, k ≤ 6 → gSets n g k = gSets n f k
theorem Sm.refl (n : Nat) (f : Nat → Nat → Int) : Sm n f f := fun _ _ => rfl
theorem Sm.trans {n : Nat} {f g h : Nat → Nat → Int} (a : Sm n f g) (b : Sm n g h) : Sm n f h := fun k hk => (b k hk).trans (a k hk)
theorem sm_of {n : Nat} (hn : n ≤ 6) {f g : Nat → Nat → Int} (h1 : ∀ k d, DvK n f k d → DvK n g k d) (h2 : ∀ k d, DvK n g k d → DvK n f k d) : Sm n f g := fun k hk =>
  eq_of_dvd fun d => by rw [dvk_sets hn hk, dvk_sets hn hk]; exact ⟨h2 k d, h1 k d⟩
theorem sm_clear {n p : Nat} (hn : n ≤ 6) (hp : p < n) (f : Nat → Nat → Int) {c : Nat → Int} (hc : c p = 0) : Sm n f (clearR f p c) :=
  sm_of hn (fun _ _ h => dvk_clear hp h) fun k d h => by
    have := dvk_clear (c := fun i => - c i) hp h
    rwa [clear_clear hc] at this
theorem sm_swap {n p q : Nat} (hn : n ≤ 6) (hp : p < n) (hq : q < n) (f : Nat → Nat → Int) : Sm n f (swapR f p q) :=
  sm_of hn (fun _ _ h => dvk_swap hp hq h) fun k d h => by
    have := dvk_swap hp hq h
    rwa [swap_swap] at this
/-! ### a pivot that divides all -/
theorem emod_small {x a : Int} (ha : a ≠ 0) : (x % a).natAbs < a.natAbs := by
  have h1 := Int.emod_nonneg x ha
  have h2 := Int.emod_lt x ha
  omega
def clear0 (f : Nat → Nat → Int) : Nat → Nat → Int := clearR f 0 fun i => if i = 0 then 0 else - (f i 0 / f 0 0)
theorem clear0_0 (f : Nat → Nat → Int) (j : Nat) : clear0 f 0 j = f 0 j := by simp [clear0, clearR, addR]
theorem clear0_i (f : Nat → Nat → Int) {i : Nat} (hi : i ≠ 0) : clear0 f i 0 = f i 0 % f 0 0 := by
  simp only [clear0, clearR, addR, if_neg hi]
  have := Int.mul_ediv_add_emod (f i 0) (f 0 0)
  grind
end Go.Proofs.Ytdpojcgeblbfeaa

/- The divisors of the minors divide each other's quotients. -/
namespace Go.Proofs.Ytdpojcgeblbfeaa

theorem gSets_0 (n : Nat) (f : Nat → Nat → Int) : gSets n f 0 = 1 := by simp [gSets, setsB, gcdL, detF]
theorem det_shift {n : Nat} {f h : Nat → Nat → Int} {a : Int} (hf : ∀ i j, i < n → j < n → f (i + 1) (j + 1) = a * h i j) : ∀ (I J : List Nat), I.length = J.length → (∀ i ∈ I, i < n) → (∀ j ∈ J, j < n) →
    detF (I.map fun i => f (i + 1)) (J.map (· + 1)) = a ^ I.length * detF (I.map h) J
  | [], J, hl, _, _ => by
    obtain rfl : J = [] := List.length_eq_zero_iff.1 (by simpa using hl.symm)
    simp [detF]
  | i :: I, J, hl, hI, hJ => by
    rw [List.map_cons, List.map_cons, detF, detF, List.length_map, ← sumN_mul]
    refine sumN_congr _ fun k hk => ?_
    have e1 : (J.map (· + 1)).getD k 0 = J.getD k 0 + 1 := by simp [List.getD, List.getElem?_eq_getElem hk]
    have e2 : J.getD k 0 < n := hJ _ (by simp [List.getD, List.getElem?_eq_getElem hk])
    rw [e1, map_erase, det_shift hf I (J.eraseIdx k) (by rw [erase_len hk]; simp at hl; omega) (fun x hx => hI x (by simp [hx])) (fun x hx => hJ x (List.mem_of_mem_eraseIdx hx)), hf i _ (hI i (by simp)) e2, List.length_cons, Int.pow_succ]
    grind
theorem mnr_shift {n : Nat} {f h : Nat → Nat → Int} {a : Int} (hf : ∀ i j, i < n → j < n → f (i + 1) (j + 1) = a * h i j) {I J : List Nat} (hl : I.length = J.length) (hI : ∀ i ∈ I, i < n) (hJ : ∀ j ∈ J, j < n) :
    mnr f (I.map (· + 1)) (J.map (· + 1)) = a ^ I.length * mnr h I J := by
  unfold mnr
  rw [List.map_map]
  exact det_shift hf I J hl hI hJ
theorem mnr_corner {f : Nat → Nat → Int} {I J : List Nat} (h : ∀ j ∈ J, f 0 j = 0) : mnr f (0 :: I) (0 :: J) = f 0 0 * mnr f I J := by
  unfold mnr
  rw [List.map_cons, detF, List.length_cons, sumN_first, (sumN_congr (g := fun _ => 0) _ fun k hk => ?_).trans (sumN_zero _)]
  · simp [sgn]
  · rw [List.getD_cons_succ, h _ (by simp [List.getD, List.getElem?_eq_getElem hk])]
    simp
theorem dvk_up {n k : Nat} {h : Nat → Nat → Int} {d : Int} (H : DvK n h k d) : DvK n h (k + 1) d := fun I J h1 h2 h3 h4 => by
  match I, h1 with
  | i :: I, h1 =>
    unfold mnr
    rw [List.map_cons, detF]
    have : ∀ m, m ≤ J.length → d ∣ sumN m fun x => sgn x * h i (J.getD x 0) * detF (I.map h) (J.eraseIdx x) := fun m => by
      induction m with
      | zero => exact fun _ => Int.dvd_zero _
      | succ m ih =>
        intro hm
        rw [sumN]
        exact Int.dvd_add (ih (by omega)) (Int.dvd_trans (H I (J.eraseIdx m) (by simpa using h1) (by rw [erase_len (by omega)]; omega) (fun x hx => h3 x (by simp [hx])) fun x hx => h4 x (List.mem_of_mem_eraseIdx hx)) (Int.dvd_mul_left _ _))
    exact this _ (Nat.le_refl _)
theorem gSets_dvd {n k : Nat} (hn : n ≤ 6) (hk : k + 1 ≤ 6) (f : Nat → Nat → Int) : gSets n f k ∣ gSets n f (k + 1) :=
  (dvk_sets hn hk).2 (dvk_up ((dvk_sets hn (by omega)).1 (Nat.dvd_refl _)))
end Go.Proofs.Ytdpojcgeblbfeaa

/- The invariant factors of a matrix that is not singular: each divides the next, their product is the determinant; what the greatest times a vector is, is a sum of rows. -/
namespace Go.Proofs.Ytdpojcgeblbfeaa

theorem sets_full : ∀ n, n ≤ 6 → setsB n n = [List.range n] := by decide +kernel
theorem gSets_full {n : Nat} (hn : n ≤ 6) (f : Nat → Nat → Int) : gSets n f n = (detF ((List.range n).map f) (List.range n)).natAbs := by
  rw [gSets, sets_full n hn]
  simp [gcdL]
/-! ### lists of quotients -/
/-! ### sums of rows -/
def Lat (n : Nat) (f : Nat → Nat → Int) (x : Nat → Int) : Prop := ∃ t : Nat → Int, ∀ j, j < n → x j = sumN n fun i => t i * f i j
theorem Lat.add {n : Nat} {f : Nat → Nat → Int} {x y : Nat → Int} (h1 : Lat n f x) (h2 : Lat n f y) : Lat n f fun j => x j + y j := by
  obtain ⟨s, hs⟩ := h1
  obtain ⟨t, ht⟩ := h2
  refine ⟨fun i => s i + t i, fun j hj => ?_⟩
  show x j + y j = _
  rw [hs j hj, ht j hj, ← sumN_add]
  exact sumN_congr _ fun i _ => by grind
theorem Lat.mul {n : Nat} {f : Nat → Nat → Int} {x : Nat → Int} (c : Int) (h : Lat n f x) : Lat n f fun j => c * x j := by
  obtain ⟨s, hs⟩ := h
  refine ⟨fun i => c * s i, fun j hj => ?_⟩
  show c * x j = _
  rw [hs j hj, ← sumN_mul]
  exact sumN_congr _ fun i _ => by grind
theorem Lat.zero (n : Nat) (f : Nat → Nat → Int) : Lat n f fun _ => 0 := ⟨fun _ => 0, fun j _ => by
  rw [sumN_congr (g := fun _ => 0) n fun i _ => by simp, sumN_zero]⟩
theorem Lat.congr {n : Nat} {f : Nat → Nat → Int} {x y : Nat → Int} (h : Lat n f x) (e : ∀ j, j < n → y j = x j) : Lat n f y := by
  obtain ⟨s, hs⟩ := h
  exact ⟨s, fun j hj => (e j hj).trans (hs j hj)⟩
theorem Lat.sum {n : Nat} {f : Nat → Nat → Int} {X : Nat → Nat → Int} : ∀ m, (∀ k, k < m → Lat n f (X k)) → Lat n f fun j => sumN m fun k => X k j
  | 0, _ => Lat.zero n f
  | m + 1, h => by
    have := (Lat.sum m fun k hk => h k (by omega)).add (h m (by omega))
    exact this
theorem lat_unit {m : Nat} (hm : m + 1 ≤ 6) (f : Nat → Nat → Int) {j0 : Nat} (hj0 : j0 < m + 1) : ∃ c : Int, c.natAbs = gSets (m + 1) f (m + 1) / gSets (m + 1) f m ∧ Lat (m + 1) f fun j => if j = j0 then c else 0 := by
  obtain ⟨C, hC⟩ : ∃ C, C = (List.range (m + 1)).erase j0 := ⟨_, rfl⟩
  have hCr : (List.range (m + 1)).Perm (j0 :: C) := by rw [hC]; exact List.perm_cons_erase (List.mem_range.2 hj0)
  have hCl : C.length = m := by have := hCr.length_eq; simp at this; omega
  have hCn : ∀ j ∈ C, j < m + 1 := fun j hj => List.mem_range.1 (hCr.mem_iff.2 (by simp [hj]))
  obtain ⟨R, hR⟩ : ∃ R, R = List.range (m + 1) := ⟨_, rfl⟩
  have hRl : R.length = m + 1 := by rw [hR]; simp
  obtain ⟨g, hg⟩ : ∃ g, g = gSets (m + 1) f m := ⟨_, rfl⟩
  have hdv : DvK (m + 1) f m (g : Int) := by rw [hg]; exact (dvk_sets hm (by omega)).1 (Nat.dvd_refl _)
  -- the expansion along the column that is handed in
  have hex : ∀ j, mnr f R (j :: C) = sumN (m + 1) fun i => sgn i * f i j * mnr f (R.eraseIdx i) C := fun j => by
    unfold mnr
    rw [det_col (m + 1) (R.map f) j C (by simp [hRl]) (by simp [hRl, hCl]), List.length_map, hRl]
    refine sumN_congr _ fun i hi => ?_
    rw [map_erase, show (R.map f).getD i zeroR = f i by rw [hR]; simp [List.getD, hi]]
  have hdvd : ∀ i, i < m + 1 → (g : Int) ∣ mnr f (R.eraseIdx i) C := fun i hi => hdv _ _ (by rw [List.length_eraseIdx_of_lt (by omega)]; omega) hCl (fun x hx => by
    have := List.mem_of_mem_eraseIdx hx
    rw [hR] at this
    exact List.mem_range.1 this) hCn
  have hq : ∀ i, ∃ q, i < m + 1 → mnr f (R.eraseIdx i) C = (g : Int) * q := fun i => by
    by_cases hi : i < m + 1
    · obtain ⟨q, hq⟩ := hdvd i hi
      exact ⟨q, fun _ => hq⟩
    · exact ⟨0, fun h => absurd h hi⟩
  let q : Nat → Int := fun i => Classical.choose (hq i)
  have hqs : ∀ i, i < m + 1 → mnr f (R.eraseIdx i) C = (g : Int) * q i := fun i => Classical.choose_spec (hq i)
  have hsum : ∀ j, mnr f R (j :: C) = (g : Int) * sumN (m + 1) fun i => sgn i * q i * f i j := fun j => by
    rw [hex, ← sumN_mul]
    refine sumN_congr _ fun i hi => ?_
    rw [hqs i hi]
    grind
  have h0 : ∀ j, j < m + 1 → j ≠ j0 → mnr f R (j :: C) = 0 := fun j hj hne => by
    have hjC : j ∈ C := by
      have := hCr.mem_iff.1 (List.mem_range.2 hj)
      rcases List.mem_cons.1 this with h | h
      · exact absurd h hne
      · exact h
    rw [← mnr_tr f (by simp [hRl, hCl])]
    exact mnr_dup ((List.perm_cons_erase hjC).cons j)
  have habs : (mnr f R (j0 :: C)).natAbs = gSets (m + 1) f (m + 1) := by
    rw [gSets_full hm, ← hR]
    have e1 : mnr f R (j0 :: C) = mnr (tr f) (j0 :: C) R := (mnr_tr f (by simp [hRl, hCl])).symm
    have e2 : detF (R.map f) R = mnr (tr f) R R := (mnr_tr f rfl).symm
    obtain ⟨s, h1, h2⟩ := det_perm ((hR ▸ hCr : R.Perm (j0 :: C)).map (tr f))
    rw [e1, e2]
    unfold mnr
    rw [h2, Int.natAbs_mul]
    rcases h1 with rfl | rfl <;> simp
  rw [hsum] at habs
  by_cases hg0 : g = 0
  · refine ⟨0, ?_, (Lat.zero _ _).congr fun j _ => by simp⟩
    rw [← hg, hg0]
    simp
  · refine ⟨sumN (m + 1) fun i => sgn i * q i * f i j0, ?_, fun i => sgn i * q i, fun j hj => ?_⟩
    · rw [← habs, Int.natAbs_mul, Int.natAbs_natCast, ← hg, Nat.mul_div_cancel_left _ (by omega)]
    · by_cases e : j = j0
      · simp [e]
      · simp only [if_neg e]
        have := hsum j
        rw [h0 j hj e] at this
        rcases Int.mul_eq_zero.1 this.symm with h | h
        · exact absurd (Int.ofNat_eq_zero.1 h) hg0
        · exact h.symm
theorem lat_last {m : Nat} (hm : m + 1 ≤ 6) (f : Nat → Nat → Int) (x : Nat → Int) : Lat (m + 1) f fun j => ((gSets (m + 1) f (m + 1) / gSets (m + 1) f m : Nat) : Int) * x j := by
  have h1 : ∀ j0, j0 < m + 1 → Lat (m + 1) f fun j => if j = j0 then ((gSets (m + 1) f (m + 1) / gSets (m + 1) f m : Nat) : Int) * x j0 else 0 := fun j0 hj0 => by
    obtain ⟨c, hc, hL⟩ := lat_unit hm f hj0
    rw [← hc]
    rcases Int.natAbs_eq c with e | e
    · refine (hL.mul (x j0)).congr fun j _ => ?_
      split <;> grind
    · refine (hL.mul (- x j0)).congr fun j _ => ?_
      split <;> grind
  refine (Lat.sum (m + 1) h1).congr fun j hj => ?_
  rw [sumN_one (a := j) (m + 1) hj fun k _ hk => by simp [Ne.symm hk]]
  simp
theorem lat_det {m : Nat} (hm : m + 1 ≤ 6) (f : Nat → Nat → Int) (x : Nat → Int) : Lat (m + 1) f fun j => (gSets (m + 1) f (m + 1) : Int) * x j := by
  have h := (lat_last hm f x).mul (gSets (m + 1) f m : Int)
  refine h.congr fun j _ => ?_
  rw [← Int.mul_assoc]
  congr 1
  rw [← Int.natCast_mul, Nat.mul_div_cancel' (gSets_dvd hm (by omega) f)]
end Go.Proofs.Ytdpojcgeblbfeaa

/- The index theorem: modulo the rows of a matrix that is not singular there are as many vectors as its determinant says. -/
namespace Go.Proofs.Ytdpojcgeblbfeaa

def EqL (n : Nat) (f : Nat → Nat → Int) (x y : Nat → Int) : Prop := Lat n f fun j => x j - y j
theorem EqL.refl (n : Nat) (f : Nat → Nat → Int) (x : Nat → Int) : EqL n f x x := (Lat.zero n f).congr fun j _ => by simp
theorem EqL.symm {n : Nat} {f : Nat → Nat → Int} {x y : Nat → Int} (h : EqL n f x y) : EqL n f y x := (h.mul (-1)).congr fun j _ => by omega
theorem EqL.trans {n : Nat} {f : Nat → Nat → Int} {x y z : Nat → Int} (h1 : EqL n f x y) (h2 : EqL n f y z) : EqL n f x z := (h1.add h2).congr fun j _ => by omega
structure Reps (n : Nat) (f : Nat → Nat → Int) (L : List (Nat → Int)) : Prop where
  apart : L.Pairwise fun x y => ¬ EqL n f x y
  all : ∀ x : Nat → Int, ∃ y ∈ L, EqL n f x y
theorem apart_le {α : Type} {R : α → α → Prop} (hs : ∀ x y, R x y → R y x) (ht : ∀ x y z, R x y → R y z → R x z) : ∀ (A B : List α), A.Pairwise (fun x y => ¬ R x y) → (∀ x ∈ A, ∃ y ∈ B, R x y) → A.length ≤ B.length
  | [], B, _, _ => Nat.zero_le _
  | a :: A, B, hA, hB => by
    obtain ⟨b, hb, hab⟩ := hB a (by simp)
    obtain ⟨B1, B2, rfl⟩ := List.append_of_mem hb
    have := apart_le hs ht A (B1 ++ B2) (List.pairwise_cons.1 hA).2 (fun x hx => by
      obtain ⟨y, hy, hxy⟩ := hB x (by simp [hx])
      have hax := (List.pairwise_cons.1 hA).1 x hx
      have hne : y ≠ b := fun e => hax (ht _ _ _ hab (hs _ _ (e ▸ hxy)))
      refine ⟨y, ?_, hxy⟩
      simp only [List.mem_append, List.mem_cons] at hy ⊢
      rcases hy with h | h | h
      · exact .inl h
      · exact absurd h hne
      · exact .inr h)
    simp at this ⊢
    omega
theorem Reps.len {n : Nat} {f : Nat → Nat → Int} {A B : List (Nat → Int)} (hA : Reps n f A) (hB : Reps n f B) : A.length = B.length :=
  Nat.le_antisymm (apart_le (R := EqL n f) (fun _ _ h => h.symm) (fun _ _ _ h k => h.trans k) A B hA.apart fun x _ => hB.all x)
    (apart_le (R := EqL n f) (fun _ _ h => h.symm) (fun _ _ _ h k => h.trans k) B A hB.apart fun x _ => hA.all x)
/-! ### the rows turned -/
theorem sumN_swpN (p q : Nat) (g : Nat → Int) {n : Nat} (hp : p < n) (hq : q < n) : sumN n (fun i => g (swpN p q i)) = sumN n g := by
  by_cases e : p = q
  · subst e
    exact sumN_congr _ fun i _ => by simp only [swpN]; split <;> simp_all
  · have h := fun (u : Nat → Int) => u
    -- both are the sum with p and q written apart
    have key : ∀ u : Nat → Int, sumN n u = sumN n (fun i => if i = p ∨ i = q then 0 else u i) + (u p + u q) := fun u => by
      have e1 : ∀ i, i < n → u i = (if i = p ∨ i = q then 0 else u i) + ((if i = p then u p else 0) + (if i = q then u q else 0)) := fun i _ => by
        by_cases h1 : i = p
        · subst h1; simp [e]
        · by_cases h2 : i = q
          · subst h2; simp [h1]
          · simp [h1, h2]
      rw [sumN_congr n e1, sumN_add, sumN_add, sumN_one (f := fun i => if i = p then u p else 0) (a := p) n hp (fun i _ hi => by simp [hi]), sumN_one (f := fun i => if i = q then u q else 0) (a := q) n hq (fun i _ hi => by simp [hi])]
      simp
    rw [key, key g, show swpN p q p = q by simp [swpN], show swpN p q q = p by simp [swpN, Ne.symm e]]
    have : sumN n (fun i => if i = p ∨ i = q then 0 else g (swpN p q i)) = sumN n fun i => if i = p ∨ i = q then 0 else g i := sumN_congr _ fun i _ => by
      by_cases h1 : i = p ∨ i = q
      · rw [if_pos h1, if_pos h1]
      · rw [if_neg h1, if_neg h1]
        congr 1
        simp only [swpN]
        rw [if_neg (fun x => h1 (.inl x)), if_neg (fun x => h1 (.inr x))]
    rw [this]
    omega
theorem lat_swap {n p q : Nat} (hp : p < n) (hq : q < n) {f : Nat → Nat → Int} {x : Nat → Int} (h : Lat n f x) : Lat n (swapR f p q) x := by
  obtain ⟨t, ht⟩ := h
  refine ⟨fun i => t (swpN p q i), fun j hj => ?_⟩
  rw [ht j hj]
  exact (sumN_swpN p q (fun i => t i * f i j) hp hq).symm
theorem lat_clear {n p : Nat} (hp : p < n) {f : Nat → Nat → Int} {c : Nat → Int} (hc : c p = 0) {x : Nat → Int} (h : Lat n f x) : Lat n (clearR f p c) x := by
  obtain ⟨t, ht⟩ := h
  refine ⟨fun i => if i = p then t p - sumN n (fun k => t k * c k) else t i, fun j hj => ?_⟩
  rw [ht j hj]
  have e : ∀ i, i < n → (if i = p then t p - sumN n (fun k => t k * c k) else t i) * clearR f p c i j = (t i * f i j + (t i * c i) * f p j) - (if i = p then sumN n (fun k => t k * c k) * f p j else 0) := fun i _ => by
    simp only [clearR, addR]
    by_cases h1 : i = p
    · subst h1
      simp only [if_true, hc]
      grind
    · simp only [if_neg h1]
      grind
  have e2 : sumN n (fun i => t i * f i j + (t i * c i) * f p j - (if i = p then sumN n (fun k => t k * c k) * f p j else 0)) = sumN n (fun i => t i * f i j) := by
    have e3 : ∀ i, i < n → t i * f i j + (t i * c i) * f p j - (if i = p then sumN n (fun k => t k * c k) * f p j else 0) = t i * f i j + (f p j * (t i * c i) + (if i = p then - (sumN n (fun k => t k * c k) * f p j) else 0)) := fun i _ => by
      split <;> grind
    rw [sumN_congr n e3, sumN_add, sumN_add, sumN_mul, sumN_one (f := fun i => if i = p then - (sumN n (fun k => t k * c k) * f p j) else 0) (a := p) n hp (fun i _ hi => by simp [hi])]
    simp only [if_true]
    grind
  rw [sumN_congr n e, e2]
def SameL (n : Nat) (f g : Nat → Nat → Int) : Prop := (∀ x, Lat n f x ↔ Lat n g x) ∧ gSets n g n = gSets n f n
theorem SameL.refl (n : Nat) (f : Nat → Nat → Int) : SameL n f f := ⟨fun _ => Iff.rfl, rfl⟩
theorem SameL.trans {n : Nat} {f g h : Nat → Nat → Int} (a : SameL n f g) (b : SameL n g h) : SameL n f h := ⟨fun x => (a.1 x).trans (b.1 x), b.2.trans a.2⟩
theorem same_clear {n p : Nat} (hn : n ≤ 6) (hp : p < n) (f : Nat → Nat → Int) {c : Nat → Int} (hc : c p = 0) : SameL n f (clearR f p c) :=
  ⟨fun x => ⟨lat_clear hp hc, fun h => by
    have := lat_clear (c := fun i => - c i) hp (by simp [hc]) h
    rwa [clear_clear hc] at this⟩, sm_clear hn hp f hc n hn⟩
theorem same_swap {n p q : Nat} (hn : n ≤ 6) (hp : p < n) (hq : q < n) (f : Nat → Nat → Int) : SameL n f (swapR f p q) :=
  ⟨fun x => ⟨lat_swap hp hq, fun h => by
    have := lat_swap hp hq h
    rwa [swap_swap] at this⟩, sm_swap hn hp hq f n hn⟩
theorem column {n : Nat} (hn : n ≤ 6) (h0 : 0 < n) : ∀ (m : Nat) (f : Nat → Nat → Int), (∃ i, i < n ∧ f i 0 ≠ 0 ∧ (f i 0).natAbs = m) → ∃ f', SameL n f f' ∧ f' 0 0 ≠ 0 ∧ ∀ i, i < n → i ≠ 0 → f' i 0 = 0 := by
  intro m
  induction m using Nat.strongRecOn with
  | ind m ih =>
    rintro f ⟨i0, hi0, hne, hm⟩
    have s1 := same_swap hn h0 hi0 f
    have e1 : swapR f 0 i0 0 0 = f i0 0 := by simp [swapR, swpN]
    have s2 : SameL n f (clear0 (swapR f 0 i0)) := s1.trans (same_clear hn h0 _ (by simp))
    have e2 : clear0 (swapR f 0 i0) 0 0 = f i0 0 := (clear0_0 _ 0).trans e1
    by_cases c1 : ∃ i, i < n ∧ i ≠ 0 ∧ clear0 (swapR f 0 i0) i 0 ≠ 0
    · obtain ⟨i, hi, hi0', hne'⟩ := c1
      have hlt : (clear0 (swapR f 0 i0) i 0).natAbs < m := by rw [clear0_i _ hi0', e1, ← hm]; exact emod_small hne
      obtain ⟨f', h1, h2⟩ := ih _ hlt _ ⟨i, hi, hne', rfl⟩
      exact ⟨f', s2.trans h1, h2⟩
    · exact ⟨_, s2, by rw [e2]; exact hne, fun i hi hi0' => Classical.byContradiction fun h => c1 ⟨i, hi, hi0', h⟩⟩
theorem det_blk {m : Nat} (hm : m + 1 ≤ 6) {f : Nat → Nat → Int} (h : ∀ i, i < m + 1 → i ≠ 0 → f i 0 = 0) : gSets (m + 1) f (m + 1) = (f 0 0).natAbs * gSets m (fun i j => f (i + 1) (j + 1)) m := by
  rw [gSets_full hm, gSets_full (by omega), ← Int.natAbs_mul]
  congr 1
  have e1 : detF ((List.range (m + 1)).map f) (List.range (m + 1)) = mnr (tr f) (List.range (m + 1)) (List.range (m + 1)) := (mnr_tr f rfl).symm
  rw [e1, List.range_succ_eq_map, mnr_corner (fun j hj => by
    obtain ⟨z, hz, rfl⟩ := List.mem_map.1 hj
    have hz := List.mem_range.1 hz
    exact h _ (by omega) (by omega)), mnr_tr f rfl]
  have := mnr_shift (n := m) (f := f) (h := fun i j => f (i + 1) (j + 1)) (a := 1) (fun i j _ _ => by simp) (I := List.range m) (J := List.range m) rfl (fun i hi => List.mem_range.1 hi) (fun i hi => List.mem_range.1 hi)
  rw [show (fun x => x + 1) = Nat.succ from rfl] at this
  rw [this, Int.one_pow, Int.one_mul]
  rfl
def vec (r : Nat) (y : Nat → Int) : Nat → Int := fun j => if j = 0 then (r : Int) else y (j - 1)
theorem vec_0 (r : Nat) (y : Nat → Int) : vec r y 0 = r := rfl
theorem vec_s (r : Nat) (y : Nat → Int) (j : Nat) : vec r y (j + 1) = y j := by simp [vec]
theorem eql_vec {m : Nat} {f : Nat → Nat → Int} (hc : ∀ i, i < m + 1 → i ≠ 0 → f i 0 = 0) {x : Nat → Int} {r : Nat} {y : Nat → Int} : EqL (m + 1) f x (vec r y) ↔ ∃ (t0 : Int) (t : Nat → Int), x 0 - r = t0 * f 0 0 ∧ ∀ j, j < m → x (j + 1) - t0 * f 0 (j + 1) - y j = sumN m fun i => t i * f (i + 1) (j + 1) := by
  have col0 : ∀ t : Nat → Int, sumN (m + 1) (fun i => t i * f i 0) = t 0 * f 0 0 := fun t => by
    rw [sumN_first, (sumN_congr (g := fun _ => 0) _ fun k hk => ?_).trans (sumN_zero _)]
    · simp
    · rw [hc (k + 1) (by omega) (by omega)]
      simp
  constructor
  · rintro ⟨t, ht⟩
    refine ⟨t 0, fun i => t (i + 1), ?_, fun j hj => ?_⟩
    · have := ht 0 (by omega)
      rw [col0] at this
      exact this
    · have := ht (j + 1) (by omega)
      simp only [vec_s] at this
      rw [sumN_first] at this
      show _ = sumN m fun i => t (i + 1) * f (i + 1) (j + 1)
      omega
  · rintro ⟨t0, t, h0, h⟩
    refine ⟨fun i => if i = 0 then t0 else t (i - 1), fun j hj => ?_⟩
    cases j with
    | zero =>
      rw [col0]
      simpa [vec_0] using h0
    | succ j =>
      rw [sumN_first]
      have := h j (by omega)
      have e : sumN m (fun i => (if i + 1 = 0 then t0 else t (i + 1 - 1)) * f (i + 1) (j + 1)) = sumN m fun i => t i * f (i + 1) (j + 1) := sumN_congr _ fun i _ => by simp
      rw [e]
      simp only [vec_s, if_true]
      omega
theorem index : ∀ (n : Nat), n ≤ 6 → ∀ (f : Nat → Nat → Int), gSets n f n ≠ 0 → ∃ L, Reps n f L ∧ L.length = gSets n f n
  | 0, _, f, _ => ⟨[fun _ => 0], ⟨by simp, fun x => ⟨fun _ => 0, by simp, fun _ => 0, fun j hj => by omega⟩⟩, by rw [gSets_0]; rfl⟩
  | m + 1, hn, f, hd => by
    have hex : ∃ i, i < m + 1 ∧ f i 0 ≠ 0 := Classical.byContradiction fun h => by
      have h0 : ∀ i, i < m + 1 → f i 0 = 0 := fun i hi => Classical.byContradiction fun hh => h ⟨i, hi, hh⟩
      rw [det_blk hn (fun i hi _ => h0 i hi), h0 0 (by omega)] at hd
      simp at hd
    obtain ⟨i, hi, hne⟩ := hex
    obtain ⟨f', hs, ha, hc⟩ := column hn (by omega) _ f ⟨i, hi, hne, rfl⟩
    have hdet := det_blk hn hc
    have hd' := hd
    rw [← hs.2, hdet] at hd'
    have hsub : gSets m (fun i j => f' (i + 1) (j + 1)) m ≠ 0 := fun e => hd' (by rw [e, Nat.mul_zero])
    obtain ⟨L, hL, hl⟩ := index m (by omega) _ hsub
    have e1 : ∀ x y, EqL (m + 1) f x y ↔ EqL (m + 1) f' x y := fun x y => hs.1 _
    refine ⟨(List.range (f' 0 0).natAbs).flatMap fun r => L.map (vec r), ⟨?_, fun x => ?_⟩, ?_⟩
    · rw [List.pairwise_flatMap]
      refine ⟨fun r _ => ?_, ?_⟩
      · rw [List.pairwise_map]
        refine hL.apart.imp fun {y z} h => ?_
        rw [e1, eql_vec hc]
        rintro ⟨t0, t, h0, hh⟩
        rw [vec_0, Int.sub_self] at h0
        have ht0 : t0 = 0 := (Int.mul_eq_zero.1 h0.symm).resolve_right ha
        subst ht0
        refine h ⟨t, fun j hj => ?_⟩
        have := hh j hj
        rw [vec_s] at this
        show y j - z j = sumN m fun i => t i * f' (i + 1) (j + 1)
        omega
      · refine List.Pairwise.imp_of_mem (R := fun a b => a ≠ b) ?_ List.nodup_range
        intro r r' hr hr' hne x hx y hy
        rw [List.mem_range] at hr hr'
        obtain ⟨u, -, rfl⟩ := List.mem_map.1 hx
        obtain ⟨v, -, rfl⟩ := List.mem_map.1 hy
        rw [e1, eql_vec hc]
        rintro ⟨t0, t, h0, -⟩
        rw [vec_0] at h0
        have h1 : f' 0 0 ∣ (r : Int) - r' := ⟨t0, by rw [h0, Int.mul_comm]⟩
        have h2 : (f' 0 0).natAbs ∣ ((r : Int) - r').natAbs := Int.natAbs_dvd_natAbs.2 h1
        have h3 : ((r : Int) - r').natAbs < (f' 0 0).natAbs := by omega
        have h4 := Nat.eq_zero_of_dvd_of_lt h2 h3
        omega
    · obtain ⟨y, hy, s, hsy⟩ := hL.all fun j => x (j + 1) - x 0 / f' 0 0 * f' 0 (j + 1)
      have hr0 := Int.emod_nonneg (x 0) ha
      have hr1 := Int.emod_lt (x 0) ha
      refine ⟨vec (x 0 % f' 0 0).toNat y, List.mem_flatMap.2 ⟨_, List.mem_range.2 (by omega), List.mem_map_of_mem hy⟩, ?_⟩
      rw [e1, eql_vec hc]
      refine ⟨x 0 / f' 0 0, s, ?_, fun j hj => hsy j hj⟩
      rw [Int.toNat_of_nonneg hr0]
      have := Int.mul_ediv_add_emod (x 0) (f' 0 0)
      rw [Int.mul_comm] at this
      omega
    · have : ∀ k, ((List.range k).flatMap fun r => L.map (vec r)).length = k * L.length := fun k => by
        induction k with
        | zero => simp
        | succ k ih => rw [List.range_succ, List.flatMap_append, List.length_append, ih]; simp [Nat.succ_mul]
      rw [this, hl, ← hdet, hs.2]
end Go.Proofs.Ytdpojcgeblbfeaa

/- Matrices without positive entries off the diagonal whose rows add up to no less than 0 have no negative determinant; a matrix whose determinant is 0 sends some vector to 0. -/
namespace Go.Proofs.Ytdpojcgeblbfeaa

theorem perm_sign {I I' : List Nat} (h : I.Perm I') : ∃ s : Int, (s = 1 ∨ s = -1) ∧ ∀ (f : Nat → Nat → Int) (C : List Nat), detF (I'.map f) C = s * detF (I.map f) C := by
  induction h with
  | nil => exact ⟨1, .inl rfl, fun f C => by rw [Int.one_mul]⟩
  | cons x _ ih =>
    obtain ⟨s, h1, h2⟩ := ih
    refine ⟨s, h1, fun f C => ?_⟩
    simp only [List.map_cons, detF]
    rw [← sumN_mul]
    refine sumN_congr _ fun i _ => ?_
    rw [h2]
    grind
  | swap x y l => exact ⟨-1, .inr rfl, fun f C => by simp only [List.map_cons]; rw [det_swap0]; omega⟩
  | trans _ _ ih1 ih2 =>
    obtain ⟨s, h1, h2⟩ := ih1
    obtain ⟨t, h3, h4⟩ := ih2
    refine ⟨t * s, ?_, fun f C => by rw [h4, h2, Int.mul_assoc]⟩
    rcases h1 with rfl | rfl <;> rcases h3 with rfl | rfl <;> simp
theorem mnr_simul {f : Nat → Nat → Int} {I I' : List Nat} (h : I.Perm I') : mnr f I' I' = mnr f I I := by
  obtain ⟨s, h1, h2⟩ := perm_sign h
  have e1 : mnr f I' I' = s * mnr f I I' := h2 f I'
  have e2 : mnr (tr f) I' I = s * mnr (tr f) I I := h2 (tr f) I
  rw [mnr_tr f (by rw [h.length_eq]), mnr_tr f rfl] at e2
  rw [e1, e2]
  rcases h1 with rfl | rfl <;> omega
theorem det_cols (σ : Nat → Nat) : ∀ (R : List RowF) (J : List Nat), R.length = J.length → detF R (J.map σ) = detF (R.map fun r j => r (σ j)) J
  | [], J, h => by
    obtain rfl : J = [] := List.length_eq_zero_iff.1 (by simpa using h.symm)
    rfl
  | r :: R, J, h => by
    rw [List.map_cons, detF, detF, List.length_map]
    refine sumN_congr _ fun k hk => ?_
    rw [map_erase, det_cols σ R (J.eraseIdx k) (by rw [erase_len hk]; simp at h; omega)]
    simp [List.getD, List.getElem?_eq_getElem hk]
def dt (n : Nat) (f : Nat → Nat → Int) : Int := mnr f (List.range n) (List.range n)
theorem dt_abs {n : Nat} (hn : n ≤ 6) (f : Nat → Nat → Int) : (dt n f).natAbs = gSets n f n := by rw [gSets_full hn]; rfl
theorem range_skip {n k : Nat} : (List.range (n + 1)).eraseIdx k = if k ≤ n then (List.range n).map (skip k) else List.range (n + 1) := by
  apply List.ext_getElem?
  intro i
  rw [List.getElem?_eraseIdx]
  by_cases hk : k ≤ n
  · rw [if_pos hk]
    by_cases hi : i < n
    · simp only [List.getElem?_map, List.getElem?_range hi, Option.map_some, skip]
      split
      · rw [List.getElem?_range (by omega)]
      · rw [List.getElem?_range (by omega)]
    · rw [List.getElem?_eq_none (l := (List.range n).map (skip k)) (by simp; omega)]
      split
      · omega
      · rw [List.getElem?_eq_none (by simp; omega)]
  · rw [if_neg hk]
    by_cases hi : i < k
    · rw [if_pos hi]
    · rw [if_neg hi, List.getElem?_eq_none (by simp; omega), List.getElem?_eq_none (by simp; omega)]
theorem perm_erase {α : Type} : ∀ {l : List α} {k : Nat} (h : k < l.length), l.Perm (l[k] :: l.eraseIdx k)
  | x :: l, 0, _ => List.Perm.refl _
  | x :: l, k + 1, h => ((perm_erase (l := l) (k := k) (by simpa using h)).cons x).trans (List.Perm.swap _ _ _)
def sub1 (f : Nat → Nat → Int) (k : Nat) : Nat → Nat → Int := fun i j => f (skip k i) (skip k j)
theorem dt_unit {n k : Nat} (hk : k ≤ n) {f : Nat → Nat → Int} {c : Int} (h : ∀ j, j ≤ n → f k j = if j = k then c else 0) : dt (n + 1) f = c * dt n (sub1 f k) := by
  have hp : (List.range (n + 1)).Perm (k :: (List.range n).map (skip k)) := by
    have h1 := perm_erase (l := List.range (n + 1)) (k := k) (by simp; omega)
    rw [range_skip, if_pos hk] at h1
    simpa using h1
  unfold dt
  rw [← mnr_simul hp]
  have hs : ∀ i, i < n → skip k i ≤ n ∧ skip k i ≠ k := fun i hi => by unfold skip; split <;> omega
  unfold mnr
  rw [List.map_cons, detF, List.length_cons, sumN_first, (sumN_congr (g := fun _ => 0) _ fun x hx => ?_).trans (sumN_zero _)]
  · rw [List.getD_cons_zero, h k hk, if_pos rfl, List.eraseIdx_cons_zero, det_cols (skip k) _ _ (by simp), List.map_map, List.map_map]
    simp only [sgn, Nat.zero_mod, if_true, Int.one_mul, Int.add_zero]
    rfl
  · rw [List.length_map, List.length_range] at hx
    rw [List.getD_cons_succ, show ((List.range n).map (skip k)).getD x 0 = skip k x by simp [List.getD, hx], h _ (hs x hx).1, if_neg (hs x hx).2]
    simp
theorem dt_row {n k : Nat} (hk : k < n) {f g h : Nat → Nat → Int} {c : Int} (hf : ∀ j, j < n → f k j = g k j + c * h k j) (hg : ∀ i, i < n → i ≠ k → ∀ j, j < n → g i j = f i j) (hh : ∀ i, i < n → i ≠ k → ∀ j, j < n → h i j = f i j) : dt n f = dt n g + c * dt n h := by
  have split : List.range n = (List.range k) ++ k :: (List.range' (k + 1) (n - k - 1)) := by
    apply List.ext_getElem?
    intro i
    by_cases hi : i < n
    · rw [List.getElem?_range hi]
      by_cases h1 : i < k
      · rw [List.getElem?_append_left (by simpa using h1), List.getElem?_range h1]
      · rw [List.getElem?_append_right (by simp; omega), List.length_range]
        by_cases h2 : i = k
        · subst h2; simp
        · obtain ⟨m, rfl⟩ : ∃ m, i = k + 1 + m := ⟨i - k - 1, by omega⟩
          rw [show k + 1 + m - k = m + 1 by omega, List.getElem?_cons_succ, List.getElem?_range' (by omega)]
          simp
    · rw [List.getElem?_eq_none (by simp; omega), List.getElem?_eq_none (by simp; omega)]
  unfold dt mnr
  have key : ∀ u : Nat → Nat → Int, (∀ i, i < n → i ≠ k → ∀ j, j < n → u i j = f i j) → detF ((List.range n).map u) (List.range n) = detF ((List.range k).map f ++ u k :: (List.range' (k + 1) (n - k - 1)).map f) (List.range n) := fun u hu => by
    refine det_congr (by simp; omega) (fun i r r' hr hr' j hj => ?_) (by simp)
    have hi : i < n := by have := (List.getElem?_eq_some_iff.1 hr).1; simpa using this
    have hj := List.mem_range.1 hj
    rw [List.getElem?_map, List.getElem?_range hi] at hr
    injection hr with hr
    subst hr
    by_cases h1 : i < k
    · rw [List.getElem?_append_left (by simpa using h1), List.getElem?_map, List.getElem?_range h1] at hr'
      injection hr' with hr'
      subst hr'
      exact hu i hi (by omega) j hj
    · rw [List.getElem?_append_right (by simp; omega), List.length_map, List.length_range] at hr'
      by_cases h2 : i = k
      · subst h2
        rw [Nat.sub_self] at hr'
        injection hr' with hr'
        subst hr'
        rfl
      · obtain ⟨m, rfl⟩ : ∃ m, i = k + 1 + m := ⟨i - k - 1, by omega⟩
        rw [show k + 1 + m - k = m + 1 by omega, List.getElem?_cons_succ, List.getElem?_map, List.getElem?_range' (by omega)] at hr'
        injection hr' with hr'
        subst hr'
        rw [Nat.one_mul]
        exact hu _ hi h2 j hj
  rw [key f (fun _ _ _ _ _ => rfl), key g hg, key h hh, ← det_add]
  refine det_congr (by simp) (fun i r r' hr hr' j hj => ?_) (by simp; omega)
  have hj := List.mem_range.1 hj
  by_cases h1 : i < k
  · rw [List.getElem?_append_left (by simpa using h1)] at hr hr'
    rw [hr] at hr'
    injection hr' with hr'
    rw [hr']
  · rw [List.getElem?_append_right (by simp; omega), List.length_map, List.length_range] at hr hr'
    by_cases h2 : i = k
    · subst h2
      rw [Nat.sub_self] at hr hr'
      injection hr with hr
      injection hr' with hr'
      subst hr hr'
      exact hf j hj
    · obtain ⟨m, hm⟩ : ∃ m, i - k = m + 1 := ⟨i - k - 1, by omega⟩
      rw [hm, List.getElem?_cons_succ] at hr hr'
      rw [hr] at hr'
      injection hr' with hr'
      rw [hr']
theorem ker_det {m : Nat} (hm : m + 1 ≤ 6) {f : Nat → Nat → Int} {s : Nat → Int} {j0 : Nat} (hj0 : j0 < m + 1) (hs : s j0 ≠ 0) (h : ∀ i, i < m + 1 → sumN (m + 1) (fun j => f i j * s j) = 0) : gSets (m + 1) f (m + 1) = 0 := by
  obtain ⟨t, ht⟩ := lat_det hm f fun j => if j = j0 then 1 else 0
  have ht : ∀ j, j < m + 1 → (gSets (m + 1) f (m + 1) : Int) * (if j = j0 then 1 else 0) = sumN (m + 1) fun i => t i * f i j := ht
  have h1 : sumN (m + 1) (fun j => (gSets (m + 1) f (m + 1) : Int) * (if j = j0 then 1 else 0) * s j) = 0 := by
    rw [sumN_congr (m + 1) (fun j hj => by rw [ht j hj] : ∀ j, j < m + 1 → (gSets (m + 1) f (m + 1) : Int) * (if j = j0 then 1 else 0) * s j = sumN (m + 1) (fun i => t i * f i j) * s j)]
    have e : ∀ j, j < m + 1 → sumN (m + 1) (fun i => t i * f i j) * s j = sumN (m + 1) fun i => t i * (f i j * s j) := fun j _ => by
      rw [Int.mul_comm, ← sumN_mul]
      exact sumN_congr _ fun i _ => by grind
    rw [sumN_congr (m + 1) e, sumN_swap]
    refine (sumN_congr (g := fun _ => 0) _ fun i hi => ?_).trans (sumN_zero _)
    rw [sumN_mul, h i hi, Int.mul_zero]
  rw [sumN_one (a := j0) (m + 1) hj0 (fun j _ hj => by simp [hj])] at h1
  simp only [if_true, Int.mul_one] at h1
  rcases Int.mul_eq_zero.1 h1 with h2 | h2
  · exact Int.ofNat_eq_zero.1 h2
  · exact absurd h2 hs
theorem det_ker : ∀ (n : Nat), n ≤ 6 → ∀ (f : Nat → Nat → Int), gSets n f n = 0 → ∃ s : Nat → Int, (∃ j, j < n ∧ s j ≠ 0) ∧ ∀ i, i < n → sumN n (fun j => f i j * s j) = 0
  | 0, _, f, h => by rw [gSets_0] at h; omega
  | m + 1, hn, f, h => by
    by_cases hex : ∃ i, i < m + 1 ∧ f i 0 ≠ 0
    · obtain ⟨i, hi, hne⟩ := hex
      obtain ⟨f', hs, ha, hc⟩ := column hn (by omega) _ f ⟨i, hi, hne, rfl⟩
      have hd := det_blk hn hc
      rw [hs.2, h] at hd
      have hsub : gSets m (fun i j => f' (i + 1) (j + 1)) m = 0 := by
        rcases Nat.mul_eq_zero.1 hd.symm with x | x
        · exact absurd (Int.natAbs_eq_zero.1 x) ha
        · exact x
      obtain ⟨s, ⟨j, hj, hsj⟩, hk⟩ := det_ker m (by omega) _ hsub
      obtain ⟨v, hv⟩ : ∃ v : Nat → Int, v = fun j => if j = 0 then - sumN m (fun j => f' 0 (j + 1) * s j) else f' 0 0 * s (j - 1) := ⟨_, rfl⟩
      have hv0 : v 0 = - sumN m (fun j => f' 0 (j + 1) * s j) := by rw [hv]; rfl
      have hvs : ∀ j, v (j + 1) = f' 0 0 * s j := fun j => by rw [hv]; simp
      have hker : ∀ i, i < m + 1 → sumN (m + 1) (fun j => f' i j * v j) = 0 := fun i hi => by
        rw [sumN_first, sumN_congr (f := fun j => f' i (j + 1) * v (j + 1)) (g := fun j => f' 0 0 * (f' i (j + 1) * s j)) m (fun j _ => by rw [hvs]; grind), sumN_mul, hv0]
        by_cases h0 : i = 0
        · subst h0; grind
        · obtain ⟨k, rfl⟩ : ∃ k, i = k + 1 := ⟨i - 1, by omega⟩
          rw [hc (k + 1) hi h0, hk k (by omega)]
          simp
      -- the rows of f are sums of rows of f'
      refine ⟨v, ⟨j + 1, by omega, by rw [hvs]; exact Int.mul_ne_zero ha hsj⟩, fun i hi => ?_⟩
      obtain ⟨t, ht⟩ := (hs.1 (f i)).1 ⟨fun k => if k = i then 1 else 0, fun j _ => by
        rw [sumN_one (a := i) (m + 1) hi fun k _ hk => by simp [hk]]
        simp⟩
      have e : ∀ j, j < m + 1 → f i j * v j = sumN (m + 1) fun k => t k * (f' k j * v j) := fun j hj => by
        rw [ht j hj, Int.mul_comm, ← sumN_mul]
        exact sumN_congr _ fun k _ => by grind
      rw [sumN_congr (m + 1) e, sumN_swap]
      refine (sumN_congr (g := fun _ => 0) _ fun k hk => ?_).trans (sumN_zero _)
      rw [sumN_mul, hker k hk, Int.mul_zero]
    · refine ⟨fun j => if j = 0 then 1 else 0, ⟨0, by omega, by simp⟩, fun i hi => ?_⟩
      rw [sumN_one (a := 0) (m + 1) (by omega) fun j _ hj => by simp [hj]]
      have : f i 0 = 0 := Classical.byContradiction fun h => hex ⟨i, hi, h⟩
      simp [this]
structure Dom (n : Nat) (f : Nat → Nat → Int) : Prop where
  off : ∀ i j, i < n → j < n → j ≠ i → f i j ≤ 0
  row : ∀ i, i < n → 0 ≤ sumN n (f i)
theorem Dom.sub {n k : Nat} {f : Nat → Nat → Int} (h : Dom (n + 1) f) (hk : k ≤ n) : Dom n (sub1 f k) where
  off i j hi hj hne := by
    refine h.off _ _ (by unfold skip; split <;> omega) (by unfold skip; split <;> omega) fun e => hne ?_
    unfold skip at e
    split at e <;> split at e <;> omega
  row i hi := by
    have h1 := h.row (skip k i) (by unfold skip; split <;> omega)
    have h2 := h.off (skip k i) k (by unfold skip; split <;> omega) (by omega) (by unfold skip; split <;> omega)
    rw [sumN_skip (f (skip k i)) (a := k) n hk] at h1
    show 0 ≤ sumN n fun j => f (skip k i) (skip k j)
    omega
def cutD (n : Nat) (f : Nat → Nat → Int) (k : Nat) : Nat → Nat → Int := fun i j => if i < k ∧ j = i then f i j - sumN n (f i) else f i j
theorem cutD_sum {n k i : Nat} {f : Nat → Nat → Int} (hi : i < n) (hk : i < k) : sumN n (cutD n f k i) = 0 := by
  have e : ∀ j, j < n → cutD n f k i j = f i j + (if j = i then - sumN n (f i) else 0) := fun j _ => by
    unfold cutD
    by_cases h : j = i
    · rw [if_pos ⟨hk, h⟩, if_pos h]; omega
    · rw [if_neg (fun x => h x.2), if_neg h]; omega
  rw [sumN_congr n e, sumN_add, sumN_one (f := fun j => if j = i then - sumN n (f i) else 0) (a := i) n hi (fun j _ hj => by simp [hj])]
  simp only [if_true]
  omega
theorem Dom.cut {n : Nat} {f : Nat → Nat → Int} (h : Dom n f) (k : Nat) : Dom n (cutD n f k) where
  off i j hi hj hne := by
    unfold cutD
    rw [if_neg (fun x => hne x.2)]
    exact h.off i j hi hj hne
  row i hi := by
    by_cases hk : i < k
    · rw [cutD_sum hi hk]; omega
    · rw [sumN_congr (g := f i) n (fun j _ => by unfold cutD; rw [if_neg (fun x => hk x.1)])]
      exact h.row i hi
theorem det_dom : ∀ (n : Nat), n ≤ 6 → ∀ (f : Nat → Nat → Int), Dom n f → 0 ≤ dt n f
  | 0, _, f, _ => by simp [dt, mnr, detF]
  | m + 1, hn, f, h => by
    have step : ∀ k, k ≤ m + 1 → dt (m + 1) (cutD (m + 1) f k) ≤ dt (m + 1) f := fun k => by
      induction k with
      | zero =>
        intro _
        have e0 : cutD (m + 1) f 0 = f := by
          funext i j
          simp [cutD]
        rw [e0]
        exact Int.le_refl _
      | succ k ih =>
        intro hk
        refine Int.le_trans ?_ (ih (by omega))
        rw [dt_row (k := k) (f := cutD (m + 1) f k) (g := cutD (m + 1) f (k + 1)) (h := fun i j => if i = k then (if j = k then 1 else 0) else cutD (m + 1) f k i j) (c := sumN (m + 1) (f k)) (by omega) (fun j _ => ?_) (fun i hi hne j _ => ?_) (fun i hi hne j _ => ?_)]
        · have hu := dt_unit (n := m) (k := k) (c := 1) (f := fun i j => if i = k then (if j = k then 1 else 0) else cutD (m + 1) f k i j) (by omega) (fun j _ => by simp)
          rw [Int.one_mul] at hu
          rw [hu]
          have h1 := h.row k (by omega)
          have h2 : 0 ≤ dt m (sub1 (fun i j => if i = k then (if j = k then 1 else 0) else cutD (m + 1) f k i j) k) := by
            refine det_dom m (by omega) _ ?_
            have hd := (h.cut k).sub (k := k) (by omega)
            have e : sub1 (fun i j => if i = k then (if j = k then (1 : Int) else 0) else cutD (m + 1) f k i j) k = sub1 (cutD (m + 1) f k) k := by
              funext i j
              have : skip k i ≠ k := by unfold skip; split <;> omega
              simp [sub1, this]
            rw [e]
            exact hd
          have := Int.mul_nonneg h1 h2
          omega
        · unfold cutD
          by_cases hj : j = k
          · subst hj; simp
          · simp [hj]
        · unfold cutD
          by_cases h1 : i < k
          · by_cases h2 : j = i
            · rw [if_pos ⟨by omega, h2⟩, if_pos ⟨h1, h2⟩]
            · rw [if_neg (fun x => h2 x.2), if_neg (fun x => h2 x.2)]
          · rw [if_neg (fun x => by omega), if_neg (fun x => h1 x.1)]
        · simp [hne]
    have h0 : gSets (m + 1) (cutD (m + 1) f (m + 1)) (m + 1) = 0 := ker_det hn (s := fun _ => 1) (j0 := 0) (by omega) (by omega) fun i hi => by
      rw [sumN_congr (g := cutD (m + 1) f (m + 1) i) (m + 1) (fun j _ => by simp)]
      exact cutD_sum hi hi
    rw [← dt_abs hn] at h0
    have := step (m + 1) (Nat.le_refl _)
    omega
end Go.Proofs.Ytdpojcgeblbfeaa

/- The Laplacian, the plain math: what each edge gives to an entry; the Laplacian times a script takes back what firing it gives. -/
namespace Go.Proofs.Ytdpojcgeblbfeaa
open Go.RowKit

section
variable {M : Nat}
def oneI (u a : Nat) : Int := if u = a then 1 else 0
def joinI (v w : Nat) (e : Int × Int) : Int := if v ≠ w ∧ e = (min (v : Int) (w : Int), max (v : Int) (w : Int)) then 1 else 0
def joinL (v w : Nat) : List (Int × Int) → Int
  | [] => 0
  | e :: l => joinI v w e + joinL v w l
def endI (v : Nat) (e : Int × Int) : Int := if ((e.1 == (v : Int)) || (e.2 == (v : Int))) = true then 1 else 0
def endIL (v : Nat) : List (Int × Int) → Int
  | [] => 0
  | e :: l => endI v e + endIL v l
def lapP (u v : Nat) (e : Int × Int) : Int := if u = v then endI u e else -joinI u v e
def lapL (u v : Nat) : List (Int × Int) → Int
  | [] => 0
  | e :: l => lapP u v e + lapL u v l
theorem lapL_same (u : Nat) : ∀ es, lapL u u es = endIL u es
  | [] => rfl
  | e :: l => by rw [lapL, lapL_same u l, endIL, lapP, if_pos rfl]
theorem lapL_other {u v : Nat} (h : u ≠ v) : ∀ es, lapL u v es = -joinL u v es
  | [] => rfl
  | e :: l => by rw [lapL, lapL_other h l, joinL, lapP, if_neg h]; omega
theorem lapP_ind {u v a b : Nat} (hab : a < b) : lapP u v ((a : Int), (b : Int)) = (oneI u a - oneI u b) * ind v (a : Int) + (oneI u b - oneI u a) * ind v (b : Int) := by
  have hj : (u ≠ v ∧ ((a : Int), (b : Int)) = (min (u : Int) (v : Int), max (u : Int) (v : Int))) ↔ (u = a ∧ v = b) ∨ (u = b ∧ v = a) := by
    constructor
    · rintro ⟨g1, g2⟩
      injection g2 with g2 g3
      omega
    · rintro (⟨rfl, rfl⟩ | ⟨rfl, rfl⟩)
      · exact ⟨by omega, Prod.ext (by simp only; omega) (by simp only; omega)⟩
      · exact ⟨by omega, Prod.ext (by simp only; omega) (by simp only; omega)⟩
  have hi : ∀ x : Nat, ind v (x : Int) = oneI v x := fun x => by
    unfold ind oneI
    by_cases h : v = x
    · rw [if_pos h, if_pos (by omega)]
    · rw [if_neg h, if_neg (by omega)]
  rw [hi, hi]
  by_cases h : u = v
  · subst h
    unfold lapP endI oneI
    rw [if_pos rfl]
    by_cases h1 : u = a
    · subst h1
      rw [if_pos (by simp), if_pos rfl, if_neg (by omega)]
      rfl
    · by_cases h2 : u = b
      · subst h2
        rw [if_pos (by simp), if_neg h1, if_pos rfl]
        rfl
      · rw [if_neg, if_neg h1, if_neg h2]
        · rfl
        · simp only [Bool.or_eq_true, beq_iff_eq]
          omega
  · unfold lapP joinI
    rw [if_neg h]
    by_cases g : (u = a ∧ v = b) ∨ (u = b ∧ v = a)
    · rw [if_pos (hj.2 g)]
      rcases g with ⟨rfl, rfl⟩ | ⟨rfl, rfl⟩
      · simp [oneI, h, Ne.symm h]
      · simp [oneI, h, Ne.symm h]
    · rw [if_neg (fun x => g (hj.1 x))]
      unfold oneI
      by_cases h1 : u = a
      · subst h1
        have h2 : ¬ v = b := fun e => g (.inl ⟨rfl, e⟩)
        have h3 : ¬ v = u := fun e => h e.symm
        rw [if_neg h3, if_neg h2]
        simp
      · by_cases h4 : u = b
        · subst h4
          have h2 : ¬ v = a := fun e => g (.inr ⟨rfl, e⟩)
          have h3 : ¬ v = u := fun e => h e.symm
          rw [if_neg h3, if_neg h2]
          simp
        · rw [if_neg h1, if_neg h4]
          simp
theorem lap_sum {u : Nat} (t : Nat → Int) : ∀ es : List (Int × Int), (∀ e ∈ es, 0 ≤ e.1 ∧ e.1 < e.2 ∧ e.2 < (M : Int)) → sumV (fun v => lapL u v es * t v) M = -termsF t u es
  | [], _ => by
    simp only [lapL, termsF, Int.zero_mul, sumV_const]
    rfl
  | e :: l, h => by
    obtain ⟨h1, h2, h3⟩ := h e (by simp)
    have ih := lap_sum (u := u) t l (fun x hx => h x (by simp [hx]))
    obtain ⟨x, y⟩ := e
    simp only at h1 h2 h3
    obtain ⟨a, rfl⟩ : ∃ a : Nat, x = (a : Int) := ⟨x.toNat, by omega⟩
    obtain ⟨b, rfl⟩ : ∃ b : Nat, y = (b : Int) := ⟨y.toNat, by omega⟩
    have hp : ∀ v, v < M → lapL u v (((a : Int), (b : Int)) :: l) * t v = ((oneI u a - oneI u b) * t v) * ind v (a : Int) + ((oneI u b - oneI u a) * t v) * ind v (b : Int) + lapL u v l * t v := fun v _ => by
      rw [lapL, lapP_ind (by omega), Int.add_mul, Int.add_mul, Int.mul_assoc (oneI u a - oneI u b), Int.mul_comm (ind v (a : Int)), ← Int.mul_assoc (oneI u a - oneI u b), Int.mul_assoc (oneI u b - oneI u a), Int.mul_comm (ind v (b : Int)), ← Int.mul_assoc (oneI u b - oneI u a)]
    rw [sumV_congr M hp, sumV_add (fun v => ((oneI u a - oneI u b) * t v) * ind v (a : Int) + ((oneI u b - oneI u a) * t v) * ind v (b : Int)), sumV_add, sumV_ind (fun v => (oneI u a - oneI u b) * t v), sumV_ind (fun v => (oneI u b - oneI u a) * t v), ih, if_pos (by omega), if_pos (by omega), termsF, termF]
    simp only [Int.toNat_natCast]
    have hi : ∀ x : Nat, ind u (x : Int) = oneI u x := fun x => by
      unfold ind oneI
      by_cases h : u = x
      · rw [if_pos h, if_pos (by omega)]
      · rw [if_neg h, if_neg (by omega)]
    rw [hi, hi]
    simp only [Int.sub_mul, Int.mul_sub]
    omega
end
end Go.Proofs.Ytdpojcgeblbfeaa

/- The critical group, the plain math: the reduced Laplacian's rows are what scripts do; it is not singular; there are as many reduced divisors of one degree as its determinant says. -/
namespace Go.Proofs.Ytdpojcgeblbfeaa
open Go.RowKit

theorem sumVN (f : Nat → Int) : ∀ n, sumV f n = sumN n f
  | 0 => rfl
  | n + 1 => by rw [sumV, sumN, sumVN f n]
theorem joinL_comm (v w : Nat) : ∀ es, joinL v w es = joinL w v es
  | [] => rfl
  | e :: l => by
    rw [joinL, joinL, joinL_comm v w l]
    congr 1
    unfold joinI
    rw [Int.min_comm, Int.max_comm]
    by_cases h : v = w
    · subst h; rfl
    · have h' : w ≠ v := fun e => h e.symm
      simp [h, h']
theorem lapL_comm (u v : Nat) (es : List (Int × Int)) : lapL u v es = lapL v u es := by
  by_cases h : u = v
  · rw [h]
  · rw [lapL_other h, lapL_other (Ne.symm h), joinL_comm]
theorem joinL_nn (v w : Nat) : ∀ es, 0 ≤ joinL v w es
  | [] => Int.le_refl 0
  | e :: l => by
    have := joinL_nn v w l
    rw [joinL]
    unfold joinI
    split <;> omega
def unskip (q u : Nat) : Nat := if u < q then u else u - 1
theorem unskip_skip (q i : Nat) : unskip q (skip q i) = i := by
  unfold unskip skip
  by_cases h : i < q
  · simp [h]
  · rw [if_neg h, if_neg (by omega)]
    omega
theorem skip_unskip {q u : Nat} (h : u ≠ q) : skip q (unskip q u) = u := by
  unfold unskip skip
  by_cases h1 : u < q
  · simp [h1]
  · rw [if_neg h1, if_neg (by omega)]
    omega
theorem skip_ne (q i : Nat) : skip q i ≠ q := by unfold skip; split <;> omega
theorem skip_lt {q i m : Nat} (hi : i < m) : skip q i < m + 1 := by unfold skip; split <;> omega
theorem unskip_lt {q u m : Nat} (hq : q ≤ m) (hu : u < m + 1) (h : u ≠ q) : unskip q u < m := by unfold unskip; split <;> omega
def redA (q : Nat) (es : List (Int × Int)) : Nat → Nat → Int := sub1 (fun u v => lapL u v es) q
section
variable {m q : Nat} {es : List (Int × Int)}
theorem lat_red (hq : q ≤ m) (hes : ∀ e ∈ es, 0 ≤ e.1 ∧ e.1 < e.2 ∧ e.2 < ((m + 1 : Nat) : Int)) {x : Nat → Int} : Lat m (redA q es) x ↔ ∃ t : Nat → Int, t q = 0 ∧ ∀ u, u < m + 1 → u ≠ q → x (unskip q u) = - termsF t u es := by
  have key : ∀ t : Nat → Int, t q = 0 → ∀ j, sumN m (fun i => t (skip q i) * redA q es i j) = - termsF t (skip q j) es := fun t ht j => by
    rw [← lap_sum (M := m + 1) (u := skip q j) t es hes, sumVN, sumN_skip (fun v => lapL (skip q j) v es * t v) (a := q) m hq, ht, Int.mul_zero, Int.add_zero]
    refine sumN_congr _ fun i _ => ?_
    rw [redA, sub1, lapL_comm, Int.mul_comm]
  constructor
  · rintro ⟨s, hs⟩
    refine ⟨fun v => if v = q then 0 else s (unskip q v), if_pos rfl, fun u hu hne => ?_⟩
    rw [hs _ (unskip_lt hq hu hne)]
    have := key (fun v => if v = q then 0 else s (unskip q v)) (if_pos rfl) (unskip q u)
    rw [skip_unskip hne] at this
    rw [← this]
    exact sumN_congr _ fun i _ => by simp only [if_neg (skip_ne q i), unskip_skip]
  · rintro ⟨t, ht, h⟩
    refine ⟨fun i => t (skip q i), fun j hj => ?_⟩
    rw [key t ht, ← h (skip q j) (skip_lt hj) (skip_ne q j), unskip_skip]
theorem terms_sum0 (hes : ∀ e ∈ es, 0 ≤ e.1 ∧ e.1 < e.2 ∧ e.2 < ((m + 1 : Nat) : Int)) (t : Nat → Int) : sumN (m + 1) (fun u => termsF t u es) = 0 := by
  have h := Dv_sum (M := m + 1) hes [] t
  have e : Dv [] es t = fun u => termsF t u es := by funext u; simp [Dv]
  rw [e, sumVN, sumVN, sumN_congr (f := fun u => ([] : List Int).getD u 0) (g := fun _ => 0) _ (fun _ _ => by simp), sumN_zero] at h
  exact h
theorem at_sink (hq : q ≤ m) {x y : Nat → Int} (h : ∀ u, u < m + 1 → u ≠ q → x u = y u) (hs : sumN (m + 1) x = sumN (m + 1) y) : ∀ u, u < m + 1 → x u = y u := fun u hu => by
  by_cases e : u = q
  · subst e
    rw [sumN_skip x (a := u) m hq, sumN_skip y (a := u) m hq, sumN_congr (f := fun j => x (skip u j)) (g := fun j => y (skip u j)) m (fun j hj => h _ (skip_lt hj) (skip_ne u j))] at hs
    omega
  · exact h u hu e
theorem red_regular (hm : m ≤ 5) (hq : q ≤ m) (hc : Cut (m + 1) es) (hes : ∀ e ∈ es, 0 ≤ e.1 ∧ e.1 < e.2 ∧ e.2 < ((m + 1 : Nat) : Int)) : gSets m (redA q es) m ≠ 0 := fun h => by
  obtain ⟨s, ⟨j, hj, hne⟩, hk⟩ := det_ker m (by omega) _ h
  obtain ⟨t, ht⟩ : ∃ t : Nat → Int, t = fun v => if v = q then 0 else s (unskip q v) := ⟨_, rfl⟩
  have htq : t q = 0 := by rw [ht]; exact if_pos rfl
  have hts : ∀ i, t (skip q i) = s i := fun i => by rw [ht]; simp only [if_neg (skip_ne q i), unskip_skip]
  have h1 : ∀ u, u < m + 1 → u ≠ q → termsF t u es = 0 := fun u hu hne => by
    have h2 := lap_sum (M := m + 1) (u := u) t es hes
    rw [sumVN, sumN_skip (fun v => lapL u v es * t v) (a := q) m hq, htq, Int.mul_zero, Int.add_zero] at h2
    have h3 := hk (unskip q u) (unskip_lt hq hu hne)
    have e : sumN m (fun j => lapL u (skip q j) es * t (skip q j)) = sumN m fun j => redA q es (unskip q u) j * s j := sumN_congr _ fun i _ => by rw [hts, redA, sub1, skip_unskip hne]
    rw [e, h3] at h2
    omega
  have h4 := at_sink (x := fun u => termsF t u es) (y := fun _ => 0) hq h1 (by rw [terms_sum0 hes, sumN_zero])
  have h5 := flat_script hc hes (by omega) h4
  have h6 := h5 (skip q j) (skip_lt hj)
  have h7 := h5 q (by omega)
  rw [hts] at h6
  rw [htq] at h7
  omega
theorem red_dom (hq : q ≤ m) (hes : ∀ e ∈ es, 0 ≤ e.1 ∧ e.1 < e.2 ∧ e.2 < ((m + 1 : Nat) : Int)) : Dom m (redA q es) := by
  have h : Dom (m + 1) fun u v => lapL u v es := ⟨fun u v _ _ hne => by
    rw [lapL_other (Ne.symm hne)]
    have := joinL_nn u v es
    omega, fun u _ => by
    have := lap_sum (M := m + 1) (u := u) (fun _ => 1) es hes
    rw [termsF_const, sumVN, sumN_congr (g := fun v => lapL u v es) _ (fun _ _ => by rw [Int.mul_one])] at this
    rw [this]
    decide⟩
  exact h.sub hq
theorem red_det (hm : m ≤ 5) (hq : q ≤ m) (hc : Cut (m + 1) es) (hes : ∀ e ∈ es, 0 ≤ e.1 ∧ e.1 < e.2 ∧ e.2 < ((m + 1 : Nat) : Int)) : dt m (redA q es) = (gSets m (redA q es) m : Int) ∧ 0 < gSets m (redA q es) m := by
  have h1 := det_dom m (by omega) _ (red_dom hq hes)
  have h2 := dt_abs (n := m) (by omega) (redA q es)
  have h3 := red_regular hm hq hc hes
  omega
/-! ### small representatives -/
theorem diag_le (hes : ∀ e ∈ es, 0 ≤ e.1 ∧ e.1 < e.2 ∧ e.2 < ((m + 1 : Nat) : Int)) : sumN (m + 1) (fun u => lapL u u es) ≤ 2 * (es.length : Int) := by
  induction es with
  | nil => rw [sumN_congr (f := fun u => lapL u u []) (g := fun _ => 0) _ (fun _ _ => rfl), sumN_zero]; simp
  | cons e l ih =>
    have ih := ih fun x hx => hes x (by simp [hx])
    rw [sumN_congr (f := fun u => lapL u u (e :: l)) (g := fun u => lapP u u e + lapL u u l) _ (fun _ _ => rfl), sumN_add]
    obtain ⟨h1, h2, h3⟩ := hes e (by simp)
    have h4 : sumN (m + 1) (fun u => lapP u u e) = sumN (m + 1) fun u => ind u e.1 + ind u e.2 := sumN_congr _ fun u _ => by
      unfold lapP endI ind
      rw [if_pos rfl]
      by_cases a : (u : Int) = e.1
      · rw [if_pos (by simp [a]), if_pos a, if_neg (by omega)]; rfl
      · by_cases b : (u : Int) = e.2
        · rw [if_pos (by simp [b]), if_neg a, if_pos b]; rfl
        · rw [if_neg, if_neg a, if_neg b]
          · rfl
          · simp only [Bool.or_eq_true, beq_iff_eq]
            omega
    obtain ⟨x, y⟩ := e
    simp only at h1 h2 h3 h4
    obtain ⟨a, rfl⟩ : ∃ a : Nat, x = (a : Int) := ⟨x.toNat, by omega⟩
    obtain ⟨b, rfl⟩ : ∃ b : Nat, y = (b : Int) := ⟨y.toNat, by omega⟩
    have e1 : ∀ c : Nat, c < m + 1 → sumN (m + 1) (fun u => ind u (c : Int)) = 1 := fun c hc => by
      have := sumV_ind (fun _ => 1) c (m + 1)
      rw [sumVN, if_pos hc] at this
      rw [← this]
      exact sumN_congr _ fun u _ => by omega
    rw [h4, sumN_add, e1 a (by omega), e1 b (by omega), List.length_cons]
    omega
theorem sumN_le {f g : Nat → Int} : ∀ n, (∀ i, i < n → f i ≤ g i) → sumN n f ≤ sumN n g
  | 0, _ => Int.le_refl 0
  | n + 1, h => by
    have := sumN_le n fun i hi => h i (by omega)
    have := h n (by omega)
    rw [sumN, sumN]
    omega
theorem sumN_part {f : Nat → Int} {n j : Nat} (hj : j < n) (h : ∀ i, i < n → 0 ≤ f i) : f j ≤ sumN n f := by
  have h1 := sumN_one (f := fun i => if i = j then f j else 0) (a := j) n hj (fun i _ hi => by simp [hi])
  simp only [if_true] at h1
  rw [← h1]
  refine sumN_le n fun i hi => ?_
  split
  · next e => rw [e]; exact Int.le_refl _
  · exact h i hi
theorem abs_sum (f : Nat → Int) : ∀ n, ((sumN n f).natAbs : Int) ≤ sumN n fun i => ((f i).natAbs : Int)
  | 0 => Int.le_refl 0
  | n + 1 => by
    have := abs_sum f n
    rw [sumN, sumN]
    omega
theorem small_rep (hm : m ≤ 5) (hm0 : 0 < m) (hq : q ≤ m) (hn : es.length ≤ 12) (hc : Cut (m + 1) es) (hes : ∀ e ∈ es, 0 ≤ e.1 ∧ e.1 < e.2 ∧ e.2 < ((m + 1 : Nat) : Int)) (x : Nat → Int) : ∃ r, EqL m (redA q es) x r ∧ sumN m (fun j => ((r j).natAbs : Int)) ≤ 48 := by
  obtain ⟨hd1, hd2⟩ := red_det hm hq hc hes
  obtain ⟨k, rfl⟩ : ∃ k, m = k + 1 := ⟨m - 1, by omega⟩
  obtain ⟨s, hs⟩ := lat_det (m := k) (by omega) (redA q es) x
  obtain ⟨D, hD⟩ : ∃ D, D = gSets (k + 1) (redA q es) (k + 1) := ⟨_, rfl⟩
  rw [← hD] at hs hd2
  have hs : ∀ j, j < k + 1 → (D : Int) * x j = sumN (k + 1) fun i => s i * redA q es i j := hs
  have hdom := red_dom hq hes
  refine ⟨fun j => x j - sumN (k + 1) fun i => s i / D * redA q es i j, ⟨fun i => s i / D, fun j _ => by
    show x j - (x j - sumN (k + 1) fun i => s i / D * redA q es i j) = sumN (k + 1) fun i => s i / D * redA q es i j
    omega⟩, ?_⟩
  -- each entry is bounded by its column
  have hb : ∀ j, j < k + 1 → ((x j - sumN (k + 1) (fun i => s i / D * redA q es i j)).natAbs : Int) ≤ sumN (k + 1) fun i => ((redA q es i j).natAbs : Int) := fun j hj => by
    have e : (D : Int) * (x j - sumN (k + 1) fun i => s i / D * redA q es i j) = sumN (k + 1) fun i => s i % D * redA q es i j := by
      rw [Int.mul_sub, hs j hj, ← sumN_mul, Int.sub_eq_iff_eq_add, ← sumN_add]
      refine sumN_congr _ fun i _ => ?_
      have := Int.mul_ediv_add_emod (s i) D
      grind
    have h1 : ((D : Int) * (x j - sumN (k + 1) fun i => s i / D * redA q es i j)).natAbs = D * (x j - sumN (k + 1) fun i => s i / D * redA q es i j).natAbs := by rw [Int.natAbs_mul, Int.natAbs_natCast]
    have h2 := abs_sum (fun i => s i % D * redA q es i j) (k + 1)
    rw [← e, h1] at h2
    have h3 : sumN (k + 1) (fun i => ((s i % D * redA q es i j).natAbs : Int)) ≤ (D : Int) * sumN (k + 1) fun i => ((redA q es i j).natAbs : Int) := by
      rw [← sumN_mul]
      refine sumN_le _ fun i _ => ?_
      rw [Int.natAbs_mul, Int.natCast_mul]
      refine Int.mul_le_mul_of_nonneg_right ?_ (by omega)
      have h4 := Int.emod_nonneg (s i) (show (D : Int) ≠ 0 by omega)
      have h5 := Int.emod_lt_of_pos (s i) (show (0 : Int) < D by omega)
      omega
    have h6 := Int.le_trans h2 h3
    rw [Int.natCast_mul] at h6
    exact Int.le_of_mul_le_mul_left h6 (by omega)
  refine Int.le_trans (sumN_le _ hb) ?_
  -- the columns together are no more than four times the edges
  have hcol : ∀ j, j < k + 1 → sumN (k + 1) (fun i => ((redA q es i j).natAbs : Int)) ≤ 2 * lapL (skip q j) (skip q j) es := fun j hj => by
    have hsym : ∀ i, redA q es i j = redA q es j i := fun i => lapL_comm _ _ _
    have h1 := hdom.row j hj
    have h2 : sumN (k + 1) (fun i => ((redA q es i j).natAbs : Int)) = sumN (k + 1) fun i => (if i = j then 2 * redA q es j j else 0) + -1 * redA q es j i := sumN_congr _ fun i hi => by
      rw [hsym]
      by_cases h : i = j
      · subst h
        rw [if_pos rfl]
        have h3 : 0 ≤ redA q es i i := by
          have h4 := sumN_le (f := redA q es i) (g := fun v => if v = i then redA q es i i else 0) (k + 1) fun v hv => by
            by_cases hvi : v = i
            · rw [if_pos hvi, hvi]; exact Int.le_refl _
            · rw [if_neg hvi]; exact hdom.off i v hi hv hvi
          rw [sumN_one (f := fun v => if v = i then redA q es i i else 0) (a := i) (k + 1) hi (fun v _ hv => by simp [hv])] at h4
          simp only [if_true] at h4
          omega
        omega
      · rw [if_neg h]
        have := hdom.off j i hj hi h
        omega
    rw [h2, sumN_add, sumN_mul, sumN_one (f := fun i => if i = j then 2 * redA q es j j else 0) (a := j) (k + 1) hj (fun v _ hv => by simp [hv])]
    simp only [if_true]
    have : redA q es j j = lapL (skip q j) (skip q j) es := rfl
    omega
  refine Int.le_trans (sumN_le _ hcol) ?_
  rw [sumN_mul]
  have h7 := diag_le hes
  rw [sumN_skip (fun u => lapL u u es) (a := q) (k + 1) hq] at h7
  have h8 : 0 ≤ lapL q q es := by
    have := lap_sum (M := k + 1 + 1) (u := q) (fun _ => 1) es hes
    rw [lapL_same]
    clear this
    have : ∀ l : List (Int × Int), 0 ≤ endIL q l := fun l => by
      induction l with
      | nil => exact Int.le_refl 0
      | cons e l ih => rw [endIL]; unfold endI; split <;> omega
    exact this es
  omega
end
end Go.Proofs.Ytdpojcgeblbfeaa

/- What burns from the sink does not hang on the sink's chips. -/
namespace Go.Proofs.Ytdpojcgeblbfeaa
open Go.RowKit

theorem burnL_off {M : Nat} {es : List (Int × Int)} {d d' : List Int} {q : Nat} (h : ∀ u, u < M → u ≠ q → d.getD u 0 = d'.getD u 0) : ∀ k ord, (q : Int) ∈ ord → burnL M es d k ord = burnL M es d' k ord
  | 0, _, _ => rfl
  | k + 1, ord, hq => by
    have e : nextV M es d ord = nextV M es d' ord := by
      unfold nextV
      have : ∀ l : List Nat, (∀ v ∈ l, v < M) → l.find? (catchV es d ord) = l.find? (catchV es d' ord) := fun l => by
        induction l with
        | nil => exact fun _ => rfl
        | cons v l ih =>
          intro hl
          have hv : catchV es d ord v = catchV es d' ord v := by
            unfold catchV
            by_cases hvq : v = q
            · subst hvq
              simp [inL, hq]
            · rw [h v (hl v (by simp)) hvq]
          rw [List.find?_cons, List.find?_cons, hv, ih fun x hx => hl x (by simp [hx])]
      exact this _ fun v hv => List.mem_range.1 hv
    rw [burnL, burnL, e]
    cases nextV M es d' ord with
    | none => rfl
    | some v => exact burnL_off h k _ (by simp [hq])
end Go.Proofs.Ytdpojcgeblbfeaa

/- There are as many reduced divisors, but for the sink's chips, as the determinant of the reduced Laplacian says: whichever the sink. -/
namespace Go.Proofs.Ytdpojcgeblbfeaa
open Go.RowKit

structure RedN (M : Nat) (es : List (Int × Int)) (q : Nat) (x : List Int) : Prop where
  len : x.length = M
  pos : ∀ u, u < M → u ≠ q → 0 ≤ x.getD u 0
  all : (burntL M es x (q : Int)).length = M
section
variable {M q : Nat} {es : List (Int × Int)} {d x : List Int} {f : Nat → Int}
theorem RedN.off {y : List Int} (h : RedN M es q x) (hl : y.length = M) (e : ∀ u, u < M → u ≠ q → y.getD u 0 = x.getD u 0) : RedN M es q y :=
  ⟨hl, fun u hu hne => by rw [e u hu hne]; exact h.pos u hu hne, by
    unfold burntL
    rw [burnL_off e M [(q : Int)] (by simp)]
    exact h.all⟩
theorem RedN.red (h : RedN M es q x) (hb : ∀ u, -1000000 ≤ x.getD u 0 ∧ x.getD u 0 ≤ 1000000) (h0 : f q = 0) (hf : ∀ u, u < M → -1000000000 ≤ f u ∧ f u ≤ 1000000000) (e : ∀ u, u < M → u ≠ q → Dv d es f u = x.getD u 0) : IsRed M es d q f :=
  ⟨h0, hf, fun u hu hne => by rw [e u hu hne]; exact h.pos u hu hne, by
    unfold burntL
    have k : ∀ u, u < M → u ≠ q → (chipsOf M (Dv d es f)).getD u 0 = x.getD u 0 := fun u hu hne => by
      simp only [List.getD, chipsOf_at _ hu, Option.getD_some]
      rw [e u hu hne]
      have := hb u
      exact wrap64_of (by omega) (by omega)
    rw [burnL_off k M [(q : Int)] (by simp)]
    exact h.all⟩
theorem IsRed.redN (h : IsRed M es d q f) (hn : es.length ≤ 12) (hd : ∀ u, -1000000 ≤ d.getD u 0 ∧ d.getD u 0 ≤ 1000000) (hes : ∀ e ∈ es, 0 ≤ e.1 ∧ e.1 < e.2 ∧ e.2 < (M : Int)) : RedN M es q (chipsOf M (Dv d es f)) :=
  ⟨chipsOf_len _ _, fun u hu hne => by
    rw [chips_get hu (Dv_bound hn hd hes h.bound u)]
    exact h.pos u hu hne, h.all⟩
end
section
variable {m q : Nat} {es : List (Int × Int)}
theorem red_count (hm : m ≤ 5) (hm0 : 0 < m) (hq : q ≤ m) (hn : es.length ≤ 12) (hc : Cut (m + 1) es) (hes : ∀ e ∈ es, 0 ≤ e.1 ∧ e.1 < e.2 ∧ e.2 < ((m + 1 : Nat) : Int)) (hex : ∀ x : List Int, x.length = m + 1 → (∀ u, -100 ≤ x.getD u 0 ∧ x.getD u 0 ≤ 100) → ∃ f, IsRed (m + 1) es x q f)
    {RL : List (List Int)} (h1 : ∀ x ∈ RL, RedN (m + 1) es q x ∧ ∀ u, -1000 ≤ x.getD u 0 ∧ x.getD u 0 ≤ 1000) (h2 : RL.Pairwise fun x y => ∃ u, u < m + 1 ∧ u ≠ q ∧ x.getD u 0 ≠ y.getD u 0)
    (h3 : ∀ x, RedN (m + 1) es q x → (∀ u, u < m + 1 → u ≠ q → x.getD u 0 ≤ es.length) → ∃ y ∈ RL, ∀ u, u < m + 1 → u ≠ q → y.getD u 0 = x.getD u 0) : RL.length = gSets m (redA q es) m := by
  have hq1 : q < m + 1 := by omega
  obtain ⟨L, hL, hl⟩ := index m (by omega) (redA q es) (red_regular hm hq hc hes)
  rw [← hl]
  have hR : Reps m (redA q es) (RL.map fun x j => x.getD (skip q j) 0) := by
    refine ⟨?_, fun v => ?_⟩
    · rw [List.pairwise_map]
      refine List.Pairwise.imp_of_mem (fun {x y} hx hy hne heq => ?_) h2
      obtain ⟨u, hu, huq, hne⟩ := hne
      obtain ⟨t, ht0, ht⟩ := (lat_red hq hes).1 heq
      obtain ⟨rx, bx⟩ := h1 x hx
      obtain ⟨ry, bY⟩ := h1 y hy
      have hD : ∀ u, u < m + 1 → u ≠ q → Dv x es t u = y.getD u 0 := fun u hu hne => by
        have := ht u hu hne
        simp only [skip_unskip hne] at this
        unfold Dv
        omega
      have hM : ((m + 1 : Nat) : Int) ≤ 6 := by omega
      have hsq : ((m + 1 : Nat) : Int) * ((m + 1 : Nat) : Int) ≤ 36 := Int.le_trans (Int.mul_le_mul hM hM (by omega) (by omega)) (by omega)
      have hlim : 2000 * ((m + 1 : Nat) : Int) * ((m + 1 : Nat) : Int) ≤ 72000 := by rw [Int.mul_assoc]; omega
      have tb : ∀ u, u < m + 1 → -72000 ≤ t u ∧ t u ≤ 72000 := fun u hu => by
        have a1 := lev_top (B := 2000) (q := q) (f := t) hc hes (by omega) hq1 (fun u hu hne => by
          have := hD u hu hne
          unfold Dv at this
          have := bx u
          have := bY u
          omega) u hu
        have a2 := lev_top (B := 2000) (q := q) (f := fun i => -t i) hc hes (by omega) hq1 (fun u hu hne => by
          have := hD u hu hne
          unfold Dv at this
          have := bx u
          have := bY u
          rw [termsF_neg]
          omega) u hu
        have a2 : -t u ≤ -t q + 2000 * ((m + 1 : Nat) : Int) * ((m + 1 : Nat) : Int) := a2
        omega
      have r1 : IsRed (m + 1) es x q t := ry.red (fun u => by have := bY u; omega) ht0 (fun u hu => by have := tb u hu; omega) hD
      have r2 : IsRed (m + 1) es x q fun _ => 0 := rx.red (fun u => by have := bx u; omega) rfl (fun _ _ => by omega) fun u _ _ => by
        unfold Dv
        rw [termsF_zero fun _ => rfl]
        omega
      have h0 := r1.same r2 hq1 hn (fun u => by have := bx u; omega) hes
      have e1 : termsF t u es = termsF (fun _ => 0) u es := termsF_congr u es fun e he => by
        obtain ⟨g1, g2, g3⟩ := hes e he
        exact ⟨h0 _ (by omega), h0 _ (by omega)⟩
      have e2 := hD u hu huq
      unfold Dv at e2
      rw [e1, termsF_zero fun _ => rfl] at e2
      omega
    · obtain ⟨r, hr, hb⟩ := small_rep hm hm0 hq hn hc hes v
      have hrb : ∀ j, j < m → -48 ≤ r j ∧ r j ≤ 48 := fun j hj => by
        have : ((r j).natAbs : Int) ≤ _ := sumN_part (f := fun j => ((r j).natAbs : Int)) hj (fun _ _ => by omega)
        omega
      obtain ⟨d, hd⟩ : ∃ d : List Int, d = (List.range (m + 1)).map fun u => if u = q then 0 else r (unskip q u) := ⟨_, rfl⟩
      have hdl : d.length = m + 1 := by rw [hd]; simp
      have hdu : ∀ u, u < m + 1 → d.getD u 0 = if u = q then 0 else r (unskip q u) := fun u hu => by rw [hd]; simp [List.getD, hu]
      have hdb : ∀ u, -100 ≤ d.getD u 0 ∧ d.getD u 0 ≤ 100 := fun u => by
        by_cases hu : u < m + 1
        · rw [hdu u hu]
          split
          · omega
          · next h => have := hrb _ (unskip_lt hq hu h); omega
        · rw [List.getD, List.getElem?_eq_none (by omega)]
          simp
      obtain ⟨f, hf⟩ := hex d hdl hdb
      have hdb6 : ∀ u, -1000000 ≤ d.getD u 0 ∧ d.getD u 0 ≤ 1000000 := fun u => by have := hdb u; omega
      have hfew := fun u hu hne => hf.few hq1 hn hdb6 hes u hu hne
      have hget : ∀ u, u < m + 1 → (chipsOf (m + 1) (Dv d es f)).getD u 0 = Dv d es f u := fun u hu => chips_get hu (Dv_bound hn hdb6 hes hf.bound u)
      obtain ⟨y, hy, hyu⟩ := h3 _ (hf.redN hn hdb6 hes) fun u hu hne => by
        rw [hget u hu]
        have := hfew u hu hne
        omega
      refine ⟨_, List.mem_map_of_mem hy, hr.trans ((lat_red hq hes).2 ⟨f, hf.zero, fun u hu hne => ?_⟩)⟩
      show r (unskip q u) - y.getD (skip q (unskip q u)) 0 = - termsF f u es
      rw [skip_unskip hne, hyu u hu hne, hget u hu]
      have := hdu u hu
      rw [if_neg hne] at this
      unfold Dv
      omega
  have := hR.len hL
  simpa using this
end
end Go.Proofs.Ytdpojcgeblbfeaa

/- Divisors of one class: sums and multiples; each class has one reduced divisor; orders. -/
namespace Go.Proofs.Ytdpojcgeblbfeaa
open Go.RowKit

def Eqv (M : Nat) (es : List (Int × Int)) (x y : Nat → Int) : Prop := ∃ t : Nat → Int, ∀ u, u < M → x u - y u = - termsF t u es
theorem termsF_mul (c : Int) (f : Nat → Int) (u : Nat) : ∀ es : List (Int × Int), termsF (fun i => c * f i) u es = c * termsF f u es
  | [] => by simp [termsF]
  | e :: l => by
    rw [termsF, termsF, termsF_mul c f u l]
    unfold termF
    grind
section
variable {M : Nat} {es : List (Int × Int)} {x y z x' y' : Nat → Int}
theorem Eqv.refl (x : Nat → Int) : Eqv M es x x := ⟨fun _ => 0, fun u _ => by rw [termsF_zero fun _ => rfl]; omega⟩
theorem Eqv.symm (h : Eqv M es x y) : Eqv M es y x := by
  obtain ⟨t, ht⟩ := h
  exact ⟨fun i => - t i, fun u hu => by have := ht u hu; rw [termsF_neg]; omega⟩
theorem Eqv.trans (h : Eqv M es x y) (h2 : Eqv M es y z) : Eqv M es x z := by
  obtain ⟨t, ht⟩ := h
  obtain ⟨s, hs⟩ := h2
  exact ⟨fun i => t i + s i, fun u hu => by have := ht u hu; have := hs u hu; rw [termsF_add]; omega⟩
theorem Eqv.add (h : Eqv M es x y) (h2 : Eqv M es x' y') : Eqv M es (fun u => x u + x' u) (fun u => y u + y' u) := by
  obtain ⟨t, ht⟩ := h
  obtain ⟨s, hs⟩ := h2
  exact ⟨fun i => t i + s i, fun u hu => by
    have := ht u hu
    have := hs u hu
    show x u + x' u - (y u + y' u) = _
    rw [termsF_add]
    omega⟩
theorem Eqv.mul (c : Int) (h : Eqv M es x y) : Eqv M es (fun u => c * x u) (fun u => c * y u) := by
  obtain ⟨t, ht⟩ := h
  exact ⟨fun i => c * t i, fun u hu => by rw [termsF_mul, ← Int.mul_sub, ht u hu, Int.mul_neg]⟩
theorem Eqv.congr (h : Eqv M es x y) (e1 : ∀ u, u < M → x' u = x u) (e2 : ∀ u, u < M → y' u = y u) : Eqv M es x' y' := by
  obtain ⟨t, ht⟩ := h
  exact ⟨t, fun u hu => by rw [e1 u hu, e2 u hu]; exact ht u hu⟩
theorem Eqv.of_eq (e : ∀ u, u < M → x u = y u) : Eqv M es x y := (Eqv.refl y).congr e fun _ _ => rfl
theorem Eqv.neg (h : Eqv M es x y) : Eqv M es (fun u => - x u) (fun u => - y u) := (h.mul (-1)).congr (fun u _ => by omega) fun u _ => by omega
end
section
variable {m : Nat} {es : List (Int × Int)} {x y : Nat → Int} {d : List Int}
theorem Eqv.sum (hes : ∀ e ∈ es, 0 ≤ e.1 ∧ e.1 < e.2 ∧ e.2 < ((m + 1 : Nat) : Int)) (h : Eqv (m + 1) es x y) : sumN (m + 1) x = sumN (m + 1) y := by
  obtain ⟨t, ht⟩ := h
  have h0 := terms_sum0 hes t
  have e : sumN (m + 1) (fun u => x u + termsF t u es) = sumN (m + 1) y := sumN_congr _ fun u hu => by have := ht u hu; omega
  rw [sumN_add, h0] at e
  omega
structure Gx (m : Nat) (es : List (Int × Int)) : Prop where
  m5 : m ≤ 5
  n12 : es.length ≤ 12
  ed : ∀ e ∈ es, 0 ≤ e.1 ∧ e.1 < e.2 ∧ e.2 < ((m + 1 : Nat) : Int)
  cut : Cut (m + 1) es
  ex : ∀ x : List Int, x.length = m + 1 → (∀ u, -300 ≤ x.getD u 0 ∧ x.getD u 0 ≤ 300) → ∃ f, IsRed (m + 1) es x 0 f
def gt (d : List Int) (u : Nat) : Int := d.getD u 0
theorem ext_gt {a b : List Int} (ha : a.length = m + 1) (hb : b.length = m + 1) (h : ∀ u, u < m + 1 → gt a u = gt b u) : a = b := by
  refine List.ext_getElem (by omega) fun i h1 h2 => ?_
  have := h i (by omega)
  simpa [gt, List.getD, h1, h2] using this
theorem redN_uniq {q : Nat} (hq : q ≤ m) (hm : m ≤ 5) (hn : es.length ≤ 12) (hc : Cut (m + 1) es) (hes : ∀ e ∈ es, 0 ≤ e.1 ∧ e.1 < e.2 ∧ e.2 < ((m + 1 : Nat) : Int)) {x y : List Int} (rx : RedN (m + 1) es q x) (ry : RedN (m + 1) es q y)
    (bx : ∀ u, -10000 ≤ x.getD u 0 ∧ x.getD u 0 ≤ 10000) (bY : ∀ u, -10000 ≤ y.getD u 0 ∧ y.getD u 0 ≤ 10000) (h : Eqv (m + 1) es (gt x) (gt y)) : x = y := by
  have hq1 : q < m + 1 := by omega
  obtain ⟨t', ht'⟩ := h
  obtain ⟨t, ht0, ht⟩ : ∃ t : Nat → Int, t q = 0 ∧ ∀ u, u < m + 1 → x.getD u 0 - y.getD u 0 = - termsF t u es := ⟨fun i => t' i + - t' q, by show t' q + - t' q = 0; omega, fun u hu => by
    rw [termsF_add, termsF_const]
    have := ht' u hu
    unfold gt at this
    omega⟩
  have hD : ∀ u, u < m + 1 → u ≠ q → Dv x es t u = y.getD u 0 := fun u hu hne => by
    have := ht u hu
    unfold Dv
    omega
  have hM : ((m + 1 : Nat) : Int) ≤ 6 := by omega
  have hsq : ((m + 1 : Nat) : Int) * ((m + 1 : Nat) : Int) ≤ 36 := Int.le_trans (Int.mul_le_mul hM hM (by omega) (by omega)) (by omega)
  have hlim : 20000 * ((m + 1 : Nat) : Int) * ((m + 1 : Nat) : Int) ≤ 720000 := by rw [Int.mul_assoc]; omega
  have tb : ∀ u, u < m + 1 → -720000 ≤ t u ∧ t u ≤ 720000 := fun u hu => by
    have a1 := lev_top (B := 20000) (q := q) (f := t) hc hes (by omega) hq1 (fun u hu hne => by
      have := ht u hu
      have := bx u
      have := bY u
      omega) u hu
    have a2 := lev_top (B := 20000) (q := q) (f := fun i => -t i) hc hes (by omega) hq1 (fun u hu hne => by
      have := ht u hu
      have := bx u
      have := bY u
      rw [termsF_neg]
      omega) u hu
    have a2 : -t u ≤ -t q + 20000 * ((m + 1 : Nat) : Int) * ((m + 1 : Nat) : Int) := a2
    omega
  have r1 : IsRed (m + 1) es x q t := ry.red (fun u => by have := bY u; omega) ht0 (fun u hu => by have := tb u hu; omega) hD
  have r2 : IsRed (m + 1) es x q fun _ => 0 := rx.red (fun u => by have := bx u; omega) rfl (fun _ _ => by omega) fun u _ _ => by
    unfold Dv
    rw [termsF_zero fun _ => rfl]
    omega
  have h0 := r1.same r2 hq1 hn (fun u => by have := bx u; omega) hes
  refine ext_gt rx.len ry.len fun u hu => ?_
  have e1 : termsF t u es = termsF (fun _ => 0) u es := termsF_congr u es fun e he => by
    obtain ⟨g1, g2, g3⟩ := hes e he
    exact ⟨h0 _ (by omega), h0 _ (by omega)⟩
  have e2 := ht u hu
  rw [e1, termsF_zero fun _ => rfl] at e2
  unfold gt
  omega
noncomputable def rdc (M : Nat) (es : List (Int × Int)) (d : List Int) : List Int := chipsOf M (Dv d es (redF M es d 0))
structure RdD (m : Nat) (es : List (Int × Int)) (d r : List Int) : Prop where
  red : RedN (m + 1) es 0 r
  eqv : Eqv (m + 1) es (gt d) (gt r)
  few : ∀ u, u < m + 1 → u ≠ 0 → 0 ≤ gt r u ∧ gt r u ≤ 11
  sum : sumN (m + 1) (gt r) = sumN (m + 1) (gt d)
theorem sum_lim {f : Nat → Int} {a b : Int} : ∀ n, (∀ i, i < n → a ≤ f i ∧ f i ≤ b) → (n : Int) * a ≤ sumN n f ∧ sumN n f ≤ (n : Int) * b
  | 0, _ => by simp [sumN]
  | n + 1, h => by
    obtain ⟨h1, h2⟩ := sum_lim n fun i hi => h i (by omega)
    have := h n (by omega)
    rw [sumN, show ((n + 1 : Nat) : Int) = (n : Int) + 1 by omega, Int.add_mul, Int.add_mul]
    omega
theorem gt_out {d : List Int} {u : Nat} (h : d.length ≤ u) : gt d u = 0 := by simp [gt, List.getD, List.getElem?_eq_none h]
theorem Gx.rdc (h : Gx m es) (hl : d.length = m + 1) (hd : ∀ u, -300 ≤ gt d u ∧ gt d u ≤ 300) : RdD m es d (rdc (m + 1) es d) := by
  obtain ⟨f, hf⟩ := h.ex d hl hd
  have hf := redF_is hf
  have hd6 : ∀ u, -1000000 ≤ d.getD u 0 ∧ d.getD u 0 ≤ 1000000 := fun u => by have := hd u; unfold gt at this; omega
  have hget : ∀ u, u < m + 1 → gt (Proofs.Ytdpojcgeblbfeaa.rdc (m + 1) es d) u = Dv d es (redF (m + 1) es d 0) u := fun u hu => chips_get hu (Dv_bound h.n12 hd6 h.ed hf.bound u)
  have he : Eqv (m + 1) es (gt d) (gt (Proofs.Ytdpojcgeblbfeaa.rdc (m + 1) es d)) := ⟨redF (m + 1) es d 0, fun u hu => by rw [hget u hu]; unfold Dv gt; omega⟩
  refine ⟨hf.redN h.n12 hd6 h.ed, he, fun u hu hne => ?_, (he.sum h.ed).symm⟩
  rw [hget u hu]
  have := hf.few (by omega) h.n12 hd6 h.ed u hu hne
  have := h.n12
  omega
theorem RdD.lim {r : List Int} (h : RdD m es d r) (hm : m ≤ 5) {a b : Int} (hs : a ≤ sumN (m + 1) (gt d) ∧ sumN (m + 1) (gt d) ≤ b) (u : Nat) : (if u = 0 then a - 55 else 0) ≤ gt r u ∧ gt r u ≤ (if u = 0 then b else 11) ∨ m + 1 ≤ u ∧ gt r u = 0 := by
  by_cases hu : u < m + 1
  · refine .inl ?_
    split
    · next h0 =>
      subst h0
      have h1 := h.sum
      rw [sumN_skip (gt r) (a := 0) m (Nat.zero_le m)] at h1
      have h2 := sum_lim (f := fun j => gt r (skip 0 j)) (a := 0) (b := 11) m fun j hj => h.few _ (skip_lt hj) (skip_ne 0 j)
      omega
    · next h0 => exact h.few u hu h0
  · exact .inr ⟨by omega, gt_out (by rw [h.red.len]; omega)⟩
theorem RdD.wide {r : List Int} (h : RdD m es d r) (hm : m ≤ 5) (hd : ∀ u, -300 ≤ gt d u ∧ gt d u ≤ 300) (u : Nat) : -10000 ≤ gt r u ∧ gt r u ≤ 10000 := by
  have h1 := sum_lim (f := gt d) (a := -300) (b := 300) (m + 1) fun u _ => hd u
  have := h.lim hm (a := -1800) (b := 1800) (by omega) u
  split at this <;> omega
theorem RdD.zero {r : List Int} (h : RdD m es d r) (hm : m ≤ 5) (hs : sumN (m + 1) (gt d) = 0) (u : Nat) : -55 ≤ gt r u ∧ gt r u ≤ 11 := by
  have := h.lim hm (a := 0) (b := 0) (by omega) u
  split at this <;> omega
theorem Gx.uniq (h : Gx m es) {x y : List Int} (rx : RedN (m + 1) es 0 x) (ry : RedN (m + 1) es 0 y) (bx : ∀ u, -10000 ≤ gt x u ∧ gt x u ≤ 10000) (bY : ∀ u, -10000 ≤ gt y u ∧ gt y u ≤ 10000) (e : Eqv (m + 1) es (gt x) (gt y)) : x = y :=
  redN_uniq (Nat.zero_le m) h.m5 h.n12 h.cut h.ed rx ry bx bY e
theorem Gx.same (h : Gx m es) {d' : List Int} (hl : d.length = m + 1) (hd : ∀ u, -300 ≤ gt d u ∧ gt d u ≤ 300) (hl' : d'.length = m + 1) (hd' : ∀ u, -300 ≤ gt d' u ∧ gt d' u ≤ 300) (e : Eqv (m + 1) es (gt d) (gt d')) : Proofs.Ytdpojcgeblbfeaa.rdc (m + 1) es d = Proofs.Ytdpojcgeblbfeaa.rdc (m + 1) es d' := by
  have r1 := h.rdc hl hd
  have r2 := h.rdc hl' hd'
  exact h.uniq r1.red r2.red (r1.wide h.m5 hd) (r2.wide h.m5 hd') (r1.eqv.symm.trans (e.trans r2.eqv))
theorem Gx.none (h : Gx m es) : RedN (m + 1) es 0 (List.replicate (m + 1) 0) := by
  have hz : ∀ u, (List.replicate (m + 1) (0 : Int)).getD u 0 = 0 := fun u => by
    rw [List.getD, List.getElem?_replicate]
    split <;> rfl
  refine ⟨by simp, fun u _ _ => by rw [hz]; exact Int.le_refl _, ?_⟩
  obtain ⟨hb, hn⟩ := burntL_all (M := m + 1) (es := es) (d := List.replicate (m + 1) 0) (q := ((0 : Nat) : Int)) ⟨by omega, by omega⟩
  refine hb.full_iff.2 (h.cut.all h.ed hb fun v hv hnm => ?_)
  have := nextV_no hn v hv
  unfold catchV at this
  rw [hz] at this
  simp only [Bool.and_eq_false_iff, decide_eq_false_iff_not, Bool.not_eq_false'] at this
  rcases this with h1 | h1
  · omega
  · exact absurd (by simpa [inL] using h1) hnm
/-! ### orders -/
def IsOrd (m : Nat) (es : List (Int × Int)) (a : Nat → Int) (n : Nat) : Prop := 0 < n ∧ Eqv (m + 1) es (fun u => (n : Int) * a u) (fun _ => 0) ∧ ∀ k : Nat, 0 < k → k < n → ¬ Eqv (m + 1) es (fun u => (k : Int) * a u) (fun _ => 0)
theorem IsOrd.dvd {a : Nat → Int} {n : Nat} (h : IsOrd m es a n) {k : Nat} (hk : Eqv (m + 1) es (fun u => (k : Int) * a u) (fun _ => 0)) : n ∣ k := by
  obtain ⟨h0, h1, h2⟩ := h
  refine Nat.dvd_of_mod_eq_zero (Nat.eq_zero_of_not_pos fun hp => h2 (k % n) hp (Nat.mod_lt _ h0) ?_)
  refine (hk.add (h1.mul (-((k / n : Nat) : Int)))).congr (fun u _ => ?_) fun u _ => by simp
  have e : (k : Int) = ((n * (k / n) + k % n : Nat) : Int) := by rw [Nat.div_add_mod]
  rw [Int.natCast_add, Int.natCast_mul] at e
  rw [show (k : Int) * a u = ((n : Int) * ((k / n : Nat) : Int) + ((k % n : Nat) : Int)) * a u by rw [← e]]
  grind
theorem IsOrd.uniq {a : Nat → Int} {n k : Nat} (h : IsOrd m es a n) (g : IsOrd m es a k) : n = k := Nat.dvd_antisymm (h.dvd g.2.1) (g.dvd h.2.1)
/-! ### multiples, one step after the other -/
def plusL (M : Nat) (x y : List Int) : List Int := (List.range M).map fun u => gt x u + gt y u
theorem plusL_len (M : Nat) (x y : List Int) : (plusL M x y).length = M := by simp [plusL]
theorem plusL_gt {M : Nat} {x y : List Int} {u : Nat} (hu : u < M) : gt (plusL M x y) u = gt x u + gt y u := by simp [plusL, gt, List.getD, hu]
theorem plusL_lim {M : Nat} {x y : List Int} {a b : Int} (h : ∀ u, a ≤ gt x u ∧ gt x u ≤ b) {a' b' : Int} (h' : ∀ u, a' ≤ gt y u ∧ gt y u ≤ b') (ha : a + a' ≤ 0) (hb : 0 ≤ b + b') (u : Nat) : a + a' ≤ gt (plusL M x y) u ∧ gt (plusL M x y) u ≤ b + b' := by
  by_cases hu : u < M
  · rw [plusL_gt hu]
    have := h u
    have := h' u
    omega
  · rw [gt_out (by rw [plusL_len]; omega)]
    omega
noncomputable def itR (M : Nat) (es : List (Int × Int)) (s : List Int) : Nat → List Int
  | 0 => List.replicate M 0
  | k + 1 => rdc M es (plusL M (itR M es s k) s)
structure ItR (m : Nat) (es : List (Int × Int)) (s : List Int) (k : Nat) (x : List Int) : Prop where
  red : RedN (m + 1) es 0 x
  eqv : Eqv (m + 1) es (gt x) (fun u => (k : Int) * gt s u)
  lim : ∀ u, -55 ≤ gt x u ∧ gt x u ≤ 11
  sum : sumN (m + 1) (gt x) = 0
theorem gt_rep (M u : Nat) : gt (List.replicate M 0) u = 0 := by
  rw [gt, List.getD, List.getElem?_replicate]
  split <;> rfl
theorem ItR.one {s x : List Int} {k : Nat} (h : Gx m es) (hx : ItR m es s k x) (hb : ∀ u, -60 ≤ gt s u ∧ gt s u ≤ 60) (hs : sumN (m + 1) (gt s) = 0) : ItR m es s (k + 1) (rdc (m + 1) es (plusL (m + 1) x s)) := by
  have hl := plusL_lim (M := m + 1) hx.lim hb (by omega) (by omega)
  have hsum : sumN (m + 1) (gt (plusL (m + 1) x s)) = 0 := by
    rw [sumN_congr (g := fun u => gt x u + gt s u) _ fun u hu => plusL_gt hu, sumN_add, hx.sum, hs]
    rfl
  have hr := h.rdc (plusL_len (m + 1) x s) (fun u => by have := hl u; omega)
  refine ⟨hr.red, ?_, hr.zero h.m5 hsum, hr.sum.trans hsum⟩
  refine hr.eqv.symm.trans ((hx.eqv.add (Eqv.refl (gt s))).congr (fun u hu => plusL_gt hu) fun u _ => ?_)
  rw [Int.natCast_add, Int.add_mul]
  simp
theorem ItR.all {s : List Int} (h : Gx m es) (hb : ∀ u, -60 ≤ gt s u ∧ gt s u ≤ 60) (hs : sumN (m + 1) (gt s) = 0) : ∀ k, ItR m es s k (itR (m + 1) es s k)
  | 0 => ⟨h.none, Eqv.of_eq fun u _ => by rw [itR, gt_rep]; simp, fun u => by rw [itR, gt_rep]; omega, by
    rw [sumN_congr (f := gt (itR (m + 1) es s 0)) (g := fun _ => 0) _ fun u _ => gt_rep _ u, sumN_zero]⟩
  | k + 1 => (ItR.all h hb hs k).one h hb hs
theorem ItR.uniq {s x y : List Int} {k : Nat} (h : Gx m es) (hx : ItR m es s k x) (hy : ItR m es s k y) : x = y :=
  h.uniq hx.red hy.red (fun u => by have := hx.lim u; omega) (fun u => by have := hy.lim u; omega) (hx.eqv.trans hy.eqv.symm)
end
end Go.Proofs.Ytdpojcgeblbfeaa

/- A reduced divisor has, off the sink, no more chips than the genus. -/
namespace Go.Proofs.Ytdpojcgeblbfeaa
open Go.RowKit

end Go.Proofs.Ytdpojcgeblbfeaa
