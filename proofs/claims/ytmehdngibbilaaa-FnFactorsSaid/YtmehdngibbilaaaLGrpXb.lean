/- The critical group: the program's sums: sumOf. -/
import Derived.Test.YtmehdngibbilaaaLGrpXa
import Derived.Test.YtmehdngibbilaaaLBR
namespace Go.Proofs.Ytmehdngibbilaaa
open Go.RowKit

noncomputable def foldC (M : Nat) (es : List (Int × Int)) (z : List Int) (ts : List (List Int)) : List Int := ts.foldl (fun s t => rdc M es (plusL M s t)) z
theorem foldC_take {M : Nat} {es : List (Int × Int)} {z t : List Int} {ts : List (List Int)} {k : Nat} (h : ts[k]? = some t) : foldC M es z (ts.take (k + 1)) = rdc M es (plusL M (foldC M es z (ts.take k)) t) := by
  rw [foldC, foldC, List.take_add_one, h, List.foldl_append]
  rfl
theorem ZerL.plusR {m : Nat} {es : List (Int × Int)} {a b : List Int} (h : Gx m es) (ha : ZerL m a) (hb : ZerL m b) : ZerL m (rdc (m + 1) es (plusL (m + 1) a b)) := by
  have hsum : sumN (m + 1) (gt (plusL (m + 1) a b)) = 0 := by
    rw [sumN_congr (g := fun u => gt a u + gt b u) _ fun u hu => plusL_gt hu, sumN_add, ha.sum, hb.sum]
    rfl
  have hr := h.rdc (plusL_len (m + 1) a b) fun u => by have := plusL_lim (M := m + 1) ha.lim hb.lim (by omega) (by omega) u; omega
  exact ⟨rdc_len _ _ _, fun u => by have := hr.zero h.m5 hsum u; omega, hr.sum.trans hsum⟩
theorem ZerL.fold {m : Nat} {es : List (Int × Int)} (h : Gx m es) : ∀ (ts : List (List Int)) (z : List Int), ZerL m z → (∀ t ∈ ts, ZerL m t) → ZerL m (foldC (m + 1) es z ts)
  | [], _, hz, _ => hz
  | t :: ts, z, hz, ht => ZerL.fold h ts _ (hz.plusR h (ht t (by simp))) fun x hx => ht x (by simp [hx])
set_option maxRecDepth 100000 in
set_option maxHeartbeats 2000000 in
theorem sumOf_any {m : Nat} {es : List (Int × Int)} (hG : GrL m es) (hx : Gx m es) (A T Z : Option Addr) (c ct cz G B : Nat) (z : List Int) (ts : List (List Int)) (w : World) (hz : ZerL m z) (ht : ∀ t ∈ ts, ZerL m t) (hn : ts.length ≤ 1048576) (hA : Adr w (m + 1) es A c G) (hZ : OwnI w B Z z) (hT : IntSS w w.heap.size T ts) (hB : B ≤ w.heap.size) :
    Calls Try.prog 69 #[.func (.func 116) #[] #[.pointer (some ⟨G, 0, none⟩)], .slice Z (m + 1) cz, .slice T ts.length ct] w fun e w' => ∃ (A2 : Option Addr) (c2 : Nat), e = .returned (.slice A2 (m + 1) c2) ∧ OwnI w' B A2 (foldC (m + 1) es z ts) ∧ Below w.heap.size w w' := by
  have hzk : ∀ k, ZerL m (foldC (m + 1) es z (ts.take k)) := fun k => ZerL.fold hx _ _ hz fun t h => ht t (List.mem_of_mem_take h)
  obtain ⟨F, hF⟩ : ∃ F : Nat → List Int, F = fun k => foldC (m + 1) es z (ts.take k) := ⟨_, rfl⟩
  have HF0 := Lib.hid (show F 0 = z by rw [hF]; rfl)
  have HFL := Lib.hid (show F ts.length = foldC (m + 1) es z ts by rw [hF]; simp)
  have HAD := Lib.hid (show ∀ (k : Nat) (t : List Int) (D E : Option Addr) (cd ce : Nat) (W : World), ts[k]? = some t → Adr W (m + 1) es A c G → IntS W W.heap.size D (F k) → IntS W W.heap.size E t → Calls Try.prog 116 #[.slice D (m + 1) cd, .slice E (m + 1) ce, .pointer (some ⟨G, 0, none⟩)] W fun e w' => ∃ (A2 : Option Addr) (c2 : Nat), e = .returned (.slice A2 (m + 1) c2) ∧ OwnI w' W.heap.size A2 (F (k + 1)) ∧ Below W.heap.size W w' from fun k t D E cd ce W h h1 h2 h3 => by
    have e : F (k + 1) = rdc (m + 1) es (plusL (m + 1) (F k) t) := by rw [hF]; exact foldC_take h
    have hzt := ht t (List.mem_of_getElem? h)
    rw [e]
    have hk : ZerL m (F k) := by rw [hF]; exact hzk k
    exact adder_any hG A D E c cd ce G W ⟨hk.len, hzt.len, fun u => by have := hk.lim u; omega, fun u => by have := hzt.lim u; omega⟩ h1 h2 h3)
  have HTL := Lib.hid (show ∀ (k : Nat) (t : List Int), ts[k]? = some t → t.length = m + 1 from fun k t h => (ht t (List.mem_of_getElem? h)).len)
  have HA := Lib.hid hA
  have HZ := Lib.hid hZ
  have HT := Lib.hid hT
  rw [← HFL.out]
  clear hzk hF hA hZ hT hz ht hG hx
  generalize m + 1 = M at *
  go_enter Try.func69, Try.ntmps69
  go_wp2
  go_loopw [7, 9, 13] (fun s _ i wr => ∃ (k : Nat) (As : Option Addr) (cs : Nat), k ≤ ts.length ∧ i = .int .i64 k ∧ s = .slice As M cs ∧ OwnI wr B As (F k) ∧ Below w.heap.size w wr) (fun _ _ i _ => ts.length - (intOf i).toNat)
  case atStart => exact ⟨0, Z, cz, Nat.zero_le _, rfl, rfl, by rw [HF0.out]; exact HZ.out, Below.refl _ _⟩
  case round =>
    obtain ⟨k, As, cs, hk, rfl, rfl, ho, hb⟩ := hrel
    have HO := Lib.hid ho
    have HB := Lib.hid hb
    have HAr := Lib.hid (HA.out.next hb)
    have hki : (0 : Int) ≤ (k : Int) := Int.natCast_nonneg _
    clear ho
    by_cases hlt : k < ts.length
    · have hlt1 : (k : Int) < (ts.length : Int) := by omega
      obtain ⟨bt, ot, rfl, hbt, hct⟩ := HT.out (by omega)
      obtain ⟨t, hte⟩ : ∃ t, ts[k]? = some t := ⟨_, List.getElem?_eq_getElem hlt⟩
      obtain ⟨At, ca, hc1, hi1⟩ := hct k t hte
      have c1 : wr.cell? ⟨bt, ot + k, none⟩ = some (.slice At M ca) := by rw [hb.cell (p := ⟨bt, ot + k, none⟩) hbt, hc1, HTL.out k t hte]
      have HC := Lib.hid (HAD.out k t As At cs ca wr hte HAr.out HO.out.ints (hi1.up_ hb))
      clear hct hc1 hi1 hte hb
      go_wp2_with fail
      refine HC.out.mono ?_
      rintro e w2 ⟨A2, c2, rfl, ho2, hb2⟩
      have HO2 := Lib.hid (ho2.mono (Nat.le_trans hB HB.out.size))
      have HB2 := Lib.hid (HB.out.trans (hb2.mono HB.out.size))
      clear ho2 hb2 c1
      go_wp2
      exact ⟨⟨k + 1, A2, c2, by omega, by go_num, rfl, HO2.out, HB2.out⟩, by simp [intOf]; omega⟩
    · obtain rfl : k = ts.length := by omega
      go_wp2
      go_ret
      exact ⟨As, cs, rfl, HO.out, HB.out⟩
end Go.Proofs.Ytmehdngibbilaaa
