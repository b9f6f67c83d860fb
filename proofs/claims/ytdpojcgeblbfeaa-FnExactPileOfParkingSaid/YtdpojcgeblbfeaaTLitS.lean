/- The configuration after the sink has fired: the specification's side. -/
import Derived.Test.YtdpojcgeblbfeaaTRecM
import Derived.Test.YtdpojcgeblbfeaaTSubS
import Derived.Test.YtdpojcgeblbfeaaTBF
import Derived.Test.YtdpojcgeblbfeaaTBI
import Derived.Test.YtdpojcgeblbfeaaTRcoS
set_option linter.all false
namespace Go.Proofs.Ytdpojcgeblbfeaa
open Go.RowKit

theorem mult_nets {q u : Nat} (hne : u ≠ q) : ∀ es : List (Int × Int), (∀ e ∈ es, e.1 < e.2) → ((es.count (min (q : Int) (u : Int), max (q : Int) (u : Int)) : Nat) : Int) = nets (q : Int) u es
  | [], _ => by simp [nets]
  | (x, y) :: l, h => by
    have ih := mult_nets hne l fun e he => h e (by simp [he])
    have hxy : x < y := h (x, y) (by simp)
    rw [List.count_cons, nets, ← ih]
    have key : (if ((x, y) == (min (q : Int) (u : Int), max (q : Int) (u : Int))) = true then (1 : Nat) else 0 : Nat) = net (q : Int) u (x, y) := by
      unfold net ind
      simp only [beq_iff_eq, Prod.mk.injEq]
      repeat' split
      all_goals omega
    omega
theorem lit_at {M q k : Nat} {es : List (Int × Int)} {p : List Int} {x : Int} (hk : k < M) (hx : p[k]? = some x) : (litL M es p q)[k]? = some (x + if k = q then 0 else nets (q : Int) k es) := by
  have h : p.getD k 0 = x := by rw [List.getD, hx]; rfl
  simp [litL, hk, ← h]
theorem mult_lit {M q k : Nat} {es : List (Int × Int)} (hq : q < M) (hk : k < M) (hes : ∀ e ∈ es, e.1 < e.2) : multB (M : Int) es (q : Int) (k : Int) = if k = q then 0 else nets (q : Int) k es := by
  by_cases h : k = q
  · rw [if_pos h, multB_no (.inr (.inr (by omega)))]
  · rw [if_neg h, multB_yes (vB_t (by omega)) (vB_t (by omega)) (by omega), ← mult_nets h es hes]
theorem mult_lim {M : Nat} {es : List (Int × Int)} (a b : Int) : 0 ≤ multB (M : Int) es a b ∧ multB (M : Int) es a b ≤ es.length := by
  unfold multB
  split
  · have : es.count (min a b, max a b) ≤ es.length := List.count_le_length
    omega
  · omega
set_option maxRecDepth 100000 in
set_option maxHeartbeats 2000000 in
theorem l11Lit_any {M q : Nat} {es : List (Int × Int)} {p : List Int} (h : PileL M q es p) (A D : Option Addr) (c cd : Nat) (w : World) (hE : EdgeS w w.heap.size A es) (hS : IntS w w.heap.size D p) :
    Calls Try.prog 154 #[.agg #[.int .i64 (M : Int), .slice A es.length c], .slice D M cd, .int .i64 (q : Int)] w (fun e w' => ∃ (F : Option Addr) (cf : Nat), e = .returned (.slice F M cf) ∧ OwnI w' w.heap.size F (litL M es p q) ∧ Below w.heap.size w w') := by
  obtain ⟨i0, hi, hz0, hz1, hz2⟩ := info_parts intInfo
  have HE := Lib.hid hE
  have HS := Lib.hid hS
  have HL := Lib.hid h.len
  have hM6 := h.m6
  have hn12 := h.n12
  have hqm := h.qm
  have HMU := Lib.hid (fun (k : Nat) (W : World) (h1 : EdgeS W W.heap.size A es) => specMultU (M : Int) A c es (q : Int) (k : Int) W (by omega) h1)
  have HLA := Lib.hid (fun (k : Nat) (x : Int) (hk : k < M) (hx : p[k]? = some x) => show (litL M es p q)[k]? = some (x + multB (M : Int) es (q : Int) (k : Int)) by rw [lit_at hk hx, mult_lit hqm hk fun e he => (h.ed e he).2.1])
  have HLX := Lib.hid (fun (k : Nat) (x : Int) (hx : p[k]? = some x) => show 0 ≤ x ∧ x ≤ 60 by have := h.lim k; rw [List.getD, hx] at this; exact this)
  have HML := Lib.hid (fun (k : Nat) => mult_lim (M := M) (es := es) (q : Int) (k : Int))
  have HLL := Lib.hid (lit_len M es p q)
  obtain ⟨LL, hLL⟩ : ∃ z, z = litL M es p q := ⟨_, rfl⟩
  rw [← hLL] at HLA HLL ⊢
  obtain ⟨w1, hw1⟩ : ∃ X, X = w.alloc (Obj.cells #[.int .i64 (M : Int), .slice A es.length c] 25) := ⟨_, rfl⟩
  have G1 := Lib.hid (show GB w w1 (M : Int) A c es by rw [hw1]; exact GB.start w (M : Int) A c es)
  have HO0 := Lib.hid (own_emptyF w1 w1.heap.size (Nat.le_refl _) 3)
  have GE := Lib.hid (G1.out.next (show Below w1.heap.size w1 (w1.alloc (Obj.cells #[] 3)) from (Below.refl _ _).alloc (Nat.le_refl _) _))
  have hgw := G1.out.lt
  have HSW := Lib.hid (show w.heap.size + 1 = w1.heap.size by rw [hw1]; simp)
  clear h hE hS hLL
  go_enter Try.func154, Try.ntmps154
  go_wp2
  rw [← hw1]
  clear hw1
  go_wp2
  go_loopw [7, 13] (fun s i wr => ∃ j : Nat, j ≤ M ∧ i = .int .i64 j ∧ w1.heap.size ≤ wr.heap.size ∧ GB w wr (M : Int) A c es ∧ wr.ownsRow w1.heap.size 3 1 s j (intCells (LL.take j))) (fun _ i _ => M - (intOf i).toNat)
  case atStart => exact ⟨0, Nat.zero_le _, rfl, by simp, GE.out, by rw [HSW.out]; exact HO0.out⟩
  case round =>
    clear GE HO0 G1
    obtain ⟨j, hj, rfl, hww, hg, ho⟩ := hrel
    have G2 := Lib.hid hg
    have HO := Lib.hid ho
    have c0 := G2.out.c0
    have c1 := G2.out.c1
    clear hg ho
    have hj0 : (0 : Int) ≤ (j : Int) := Int.natCast_nonneg _
    have hsz := G2.out.lt
    by_cases hlt : j < M
    · have hj1 : (j : Int) < (M : Int) := by omega
      obtain ⟨b1, o1, x, rfl, hb1, he, hc0⟩ := (HS.out.below G2.out.old).at_ (k := j) (by rw [HL.out]; exact hlt)
      have HV2 := HMU.out j wr (HE.out.up_ G2.out.old)
      have hml := HML.out j
      have hxl := HLX.out j x he
      have HMT := Lib.hid (take_snocI (HLA.out j x hlt he))
      obtain ⟨m, hm⟩ : ∃ z, z = multB (M : Int) es (q : Int) (j : Int) := ⟨_, rfl⟩
      rw [← hm] at HMT HV2 hml
      have hwl : IntKind.i64.wrap (x + m) = x + m := by rw [IntKind.wrap_i64]; omega
      clear hm he
      go_wp2_with fail
      refine HV2.mono ?_
      rintro e w3 ⟨rfl, hb3⟩
      have G3 := Lib.hid (G2.out.next hb3)
      have HO3 := Lib.hid (HO.out.kept (row := none) ⟨hb3.os, hb3.tape, hb3.output, hb3.size, fun i hi _ => hb3.block i hi⟩ (Classical.em _))
      have hs3 := hb3.size
      clear hb3 HV2 HO c0 c1 hc0
      have HO := HO3
      go_wp2_with (at_builtin; refine wpList_append_own _ rfl _ _ 28 rfl w1.heap.size 3 i0 (.int .i64 0) 1 8 Try.underlying28 hi hz0 hz1 hz2 rfl (by decide) _ _ _ rfl (HO.out.alloc _) ⟨w3.heap.size, 0, none⟩ 1 1 [.int .i64 (x + m)] rfl rfl ?c1 ?c2 ?c3 ?c4 ?c5 ?_)
      case c1 => exact one_cellI _ _ (by simp) _ _
      case c2 => simp [Value.oneCell']
      case c3 => unfold maxLen; omega
      case c4 => omega
      case c5 => simp; omega
      intro v' w5 hown hgrow _
      have hal : Below w3.heap.size w3 (w3.alloc (Obj.cells #[.int .i64 (x + m)] 3)) := (Below.refl _ _).alloc (Nat.le_refl _) _
      have GA := G3.out.next hal
      have hlow : ∀ g, u7.ownBlock = some g → w1.heap.size ≤ g := fun g hg => (HO.out.lt g hg).1
      have G6 := Lib.hid (show GB w w5 (M : Int) A c es from ⟨GA.box.grown hgrow (fun h => by have := hlow _ h; omega), GA.old.grown hgrow GA.old.size (fun q hq => by have := hlow q hq; omega)⟩)
      have hs6 := hgrow.size
      have hs7 : w1.heap.size ≤ w5.heap.size := by simp at hs6; omega
      have HO6 := Lib.hid hown
      clear hown hgrow hal GA hlow hs6
      go_wp2
      refine ⟨⟨j + 1, by omega, by go_num, hs7, G6.out, ?_⟩, by simp [intOf]; omega⟩
      have h3 := HO6.out
      rw [HMT.out]
      simpa [intCells] using h3
    · have hjM : j = M := by omega
      have hO := HO.out
      rw [hjM, List.take_of_length_le (by rw [HLL.out]; exact Nat.le_refl _)] at hO
      obtain ⟨Ar, cr, hv, -⟩ := own_slice hO
      subst hv
      have HFF := Lib.hid (show OwnI wr w1.heap.size Ar LL by
        rw [← HLL.out] at hO
        exact OwnI.of_own hO)
      clear hO
      go_wp2
      go_ret
      exact ⟨Ar, cr, by rw [HLL.out]; rfl, HFF.out.mono (by omega), G2.out.old⟩
end Go.Proofs.Ytdpojcgeblbfeaa
