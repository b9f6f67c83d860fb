/- The specification's cursor over the bytes of a code, without its strings: what its functions hand back, whatever the bytes are. -/
import Derived.Test.YtbojbifpaecbcaaMv
import Derived.Test.YtbojbifpaecbcaaBA
import Derived.Test.YtbojbifpaecbcaaBF
namespace Go.Proofs.Ytbojbifpaecbcaa
open Go.RowKit

/-- the bytes of a code read as these numbers, below block B -/
def CodeS (w : World) (B : Nat) (A : Option Addr) (xs : List Int) : Prop :=
  (∀ z ∈ xs, 0 ≤ z ∧ z ≤ 255) ∧ (0 < xs.length → ∃ b off : Nat, A = some ⟨b, off, none⟩ ∧ b < B ∧ ∀ (i : Nat) (z : Int), xs[i]? = some z → w.cell? ⟨b, off + i, none⟩ = some (.int .u8 z))
theorem CodeS.at_ {w : World} {B : Nat} {A : Option Addr} {xs : List Int} (h : CodeS w B A xs) {k : Nat} (hk : k < xs.length) :
    ∃ (b off : Nat) (z : Int), A = some ⟨b, off, none⟩ ∧ b < B ∧ w.cell? ⟨b, off + k, none⟩ = some (.int .u8 z) ∧ 0 ≤ z ∧ z ≤ 255 := by
  obtain ⟨b, off, e, hb, hc⟩ := h.2 (by omega)
  have h2 := h.1 xs[k] (List.getElem_mem hk)
  exact ⟨b, off, xs[k], e, hb, hc k _ (List.getElem?_eq_getElem hk), h2.1, h2.2⟩
theorem CodeS.keep {w w' : World} {B : Nat} {A : Option Addr} {xs : List Int} (h : CodeS w B A xs) (hb : Below B w w') : CodeS w' B A xs :=
  ⟨h.1, fun hn => by
    obtain ⟨b, off, e, hb1, hc⟩ := h.2 hn
    exact ⟨b, off, e, hb1, fun i z hz => (hb.cell hb1).trans (hc i z hz)⟩⟩
/-- the cursor at block g -/
def Cur (w : World) (g : Nat) (A : Option Addr) (n c : Nat) : Prop := ∃ (i : Nat) (h : Int), i ≤ n ∧ -9223372036854775808 ≤ h ∧ h ≤ 9223372036854775807 ∧ Blk w g 105 #[.slice A n c, .int .i64 i, .int .i64 h]
/-- a number up to m is handed back, the cursor stays one, nothing else changes -/
def Draws (m : Int) (w : World) (g : Nat) (A : Option Addr) (n c : Nat) (e : Ending) (w' : World) : Prop := ∃ x : Int, e = .returned (.int .i64 x) ∧ 0 ≤ x ∧ x ≤ m ∧ Cur w' g A n c ∧ Below g w w' ∧ ∀ k, k ≠ g → w'.heap[k]? = w.heap[k]?
theorem and255 (n : Int) : bits .and .i64 n 255 = n % 256 := by
  have h127 : (BitVec.ofInt 64 255).toNat = 2 ^ 8 - 1 := by decide
  have key : (BitVec.ofInt 64 n &&& BitVec.ofInt 64 255).toNat = (n % ((2 ^ 64 : Nat) : Int)).toNat % 2 ^ 8 := by
    rw [BitVec.toNat_and, BitVec.toNat_ofInt, h127, Nat.and_two_pow_sub_one_eq_mod]
  show IntKind.i64.wrap ((BitVec.ofInt 64 n &&& BitVec.ofInt 64 255).toNat : Nat) = n % 256
  rw [key, IntKind.wrap_i64]
  omega
theorem and30 (n : Int) : bits .and .i64 n 1073741823 = n % 1073741824 := by
  have h127 : (BitVec.ofInt 64 1073741823).toNat = 2 ^ 30 - 1 := by decide
  have key : (BitVec.ofInt 64 n &&& BitVec.ofInt 64 1073741823).toNat = (n % ((2 ^ 64 : Nat) : Int)).toNat % 2 ^ 30 := by
    rw [BitVec.toNat_and, BitVec.toNat_ofInt, h127, Nat.and_two_pow_sub_one_eq_mod]
  show IntKind.i64.wrap ((BitVec.ofInt 64 n &&& BitVec.ofInt 64 1073741823).toNat : Nat) = n % 1073741824
  rw [key, IntKind.wrap_i64]
  omega
theorem cur_facts {w : World} {g : Nat} {a i h : Value} (hb : Blk w g 105 #[a, i, h]) :
    w.cell? ⟨g, 0, none⟩ = some a ∧ w.cell? ⟨g, 1, none⟩ = some i ∧ w.cell? ⟨g, 2, none⟩ = some h ∧ w.frozen? ⟨g, 1, none⟩ = false ∧ w.frozen? ⟨g, 2, none⟩ = false ∧ g < w.heap.size :=
  ⟨by rw [hb.cell]; rfl, by rw [hb.cell]; rfl, by rw [hb.cell]; rfl, hb.frozen 1, hb.frozen 2, hb.lt⟩
set_option maxRecDepth 100000 in
set_option maxHeartbeats 1000000 in
theorem l01Byte_any (w : World) (g : Nat) (A : Option Addr) (c : Nat) (xs : List Int) (hx : xs.length ≤ 1048576) (hC : Cur w g A xs.length c) (hS : CodeS w g A xs) :
    Calls Try.prog 69 #[.pointer (some ⟨g, 0, none⟩)] w (Draws 255 w g A xs.length c) := by
  obtain ⟨i, h, hi, hh0, hh1, hblk⟩ := hC
  have HB := Lib.hid hblk
  have HS := Lib.hid hS
  obtain ⟨hc0, hc1, hc2, hf1, hf2, hglt⟩ := cur_facts hblk
  clear hblk hS
  by_cases hlt : i < xs.length
  · have hj0 : (0 : Int) ≤ (i : Int) := Int.natCast_nonneg _
    have hj1 : (i : Int) < (xs.length : Int) := by omega
    go_enter Try.func69, Try.ntmps69
    go_wp2
    obtain ⟨h1, hh1⟩ : ∃ h1, h1 = wrap64 (wrap64 (h * 6364136223846793005) + 1442695040888963407) := ⟨_, rfl⟩
    rw [← hh1]
    obtain ⟨w1, hw1⟩ : ∃ w1, w1 = w.setCell ⟨g, 2, none⟩ (.int .i64 h1) := ⟨_, rfl⟩
    rw [← hw1]
    have hbk1 : Blk w1 g 105 #[.slice A xs.length c, .int .i64 i, .int .i64 h1] := by rw [hw1]; exact HB.out.set_ 2 _
    have hbw1 : Below g w w1 := by rw [hw1]; exact Below.setCell (B := g) (Below.refl g w) (p := ⟨g, 2, none⟩) (Nat.le_refl g) _
    have hfr1 : ∀ k, k ≠ g → w1.heap[k]? = w.heap[k]? := fun k hk => by rw [hw1]; exact Below.heap_setCell _ _ _ _ (by simpa using hk)
    have hr1 : -9223372036854775808 ≤ h1 := by rw [hh1]; unfold wrap64; omega
    have hr2 : h1 ≤ 9223372036854775807 := by rw [hh1]; unfold wrap64; omega
    clear hw1 hc0 hc1 hc2 hf1 hf2 hglt hh1
    obtain ⟨hc0, hc1, hc2, hf1, hf2, hglt⟩ := cur_facts hbk1
    go_region
    obtain ⟨x, hx1⟩ : ∃ x, x = bits BinOp.and IntKind.i64 (bits BinOp.xor IntKind.i64 (h1 / 8589934592) (h1 / 35184372088832)) 255 := ⟨_, rfl⟩
    rw [← hx1]
    have hx0 : 0 ≤ x := by rw [hx1, and255]; omega
    have hx2 : x ≤ 255 := by rw [hx1, and255]; omega
    clear hx1 hc0 hc1 hc2 hf1 hf2 hglt
    obtain ⟨w2, hw2⟩ : ∃ w2, w2 = w1.drew := ⟨_, rfl⟩
    rw [← hw2]
    have hbk2 : Blk w2 g 105 #[.slice A xs.length c, .int .i64 i, .int .i64 h1] := by rw [hw2]; exact hbk1
    have hbw2 : Below g w w2 := by rw [hw2]; exact hbw1.drew
    have HFR : Hid (∀ k, k ≠ g → w2.heap[k]? = w.heap[k]?) := Lib.hid (by rw [hw2]; exact hfr1)
    have HBW := Lib.hid hbw2
    have HBK := Lib.hid hbk2
    clear hw2 hbk1 hbw1 hfr1
    obtain ⟨hc0, hc1, hc2, hf1, hf2, hglt⟩ := cur_facts hbk2
    clear hbk2 hbw2
    obtain ⟨b, off, z, rfl, hb, hcz, hz0, hz1⟩ := (HS.out.keep HBW.out).at_ hlt
    go_wp2
    go_region
    go_wp2
    go_region
    obtain ⟨y, hy1⟩ : ∃ y, y = bits BinOp.and IntKind.i64 (x + z) 255 := ⟨_, rfl⟩
    rw [← hy1]
    have hy0 : 0 ≤ y := by rw [hy1, and255]; omega
    have hy2 : y ≤ 255 := by rw [hy1, and255]; omega
    clear hy1
    go_wp2
    go_ret
    exact ⟨y, rfl, hy0, hy2, ⟨i + 1, h1, by omega, hr1, hr2, HBK.out.set_ 1 (.int .i64 ((i : Int) + 1))⟩, ((Below.setCell (B := g) HBW.out (p := ⟨g, 1, none⟩) (Nat.le_refl g) _).drew).drew, fun k hk => (Below.heap_setCell _ _ _ _ (by simpa using hk)).trans (HFR.out k hk)⟩
  · have hj1 : (xs.length : Int) ≤ (i : Int) := by omega
    go_enter Try.func69, Try.ntmps69
    go_wp2
    obtain ⟨h1, hh1⟩ : ∃ h1, h1 = wrap64 (wrap64 (h * 6364136223846793005) + 1442695040888963407) := ⟨_, rfl⟩
    rw [← hh1]
    obtain ⟨w1, hw1⟩ : ∃ w1, w1 = w.setCell ⟨g, 2, none⟩ (.int .i64 h1) := ⟨_, rfl⟩
    rw [← hw1]
    have hbk1 : Blk w1 g 105 #[.slice A xs.length c, .int .i64 i, .int .i64 h1] := by rw [hw1]; exact HB.out.set_ 2 _
    have hbw1 : Below g w w1 := by rw [hw1]; exact Below.setCell (B := g) (Below.refl g w) (p := ⟨g, 2, none⟩) (Nat.le_refl g) _
    have hfr1 : ∀ k, k ≠ g → w1.heap[k]? = w.heap[k]? := fun k hk => by rw [hw1]; exact Below.heap_setCell _ _ _ _ (by simpa using hk)
    have hr1 : -9223372036854775808 ≤ h1 := by rw [hh1]; unfold wrap64; omega
    have hr2 : h1 ≤ 9223372036854775807 := by rw [hh1]; unfold wrap64; omega
    clear hw1 hc0 hc1 hc2 hf1 hf2 hglt hh1
    obtain ⟨hc0, hc1, hc2, hf1, hf2, hglt⟩ := cur_facts hbk1
    go_region
    obtain ⟨x, hx1⟩ : ∃ x, x = bits BinOp.and IntKind.i64 (bits BinOp.xor IntKind.i64 (h1 / 8589934592) (h1 / 35184372088832)) 255 := ⟨_, rfl⟩
    rw [← hx1]
    have hx0 : 0 ≤ x := by rw [hx1, and255]; omega
    have hx2 : x ≤ 255 := by rw [hx1, and255]; omega
    clear hx1 hc0 hc1 hc2 hf1 hf2 hglt
    obtain ⟨w2, hw2⟩ : ∃ w2, w2 = w1.drew := ⟨_, rfl⟩
    rw [← hw2]
    have hbk2 : Blk w2 g 105 #[.slice A xs.length c, .int .i64 i, .int .i64 h1] := by rw [hw2]; exact hbk1
    have hbw2 : Below g w w2 := by rw [hw2]; exact hbw1.drew
    have HFR : Hid (∀ k, k ≠ g → w2.heap[k]? = w.heap[k]?) := Lib.hid (by rw [hw2]; exact hfr1)
    have HBW := Lib.hid hbw2
    have HBK := Lib.hid hbk2
    clear hw2 hbk1 hbw1 hfr1
    obtain ⟨hc0, hc1, hc2, hf1, hf2, hglt⟩ := cur_facts hbk2
    clear hbk2 hbw2
    go_wp2
    go_region
    go_wp2
    go_ret
    exact ⟨x, rfl, hx0, hx2, ⟨i, h1, hi, hr1, hr2, HBK.out⟩, HBW.out.drew, HFR.out⟩
set_option maxRecDepth 100000 in
set_option maxHeartbeats 1000000 in
theorem l01Below_any (m : Int) (hm0 : 1 ≤ m) (hm1 : m ≤ 256) (w : World) (g : Nat) (A : Option Addr) (c : Nat) (xs : List Int) (hx : xs.length ≤ 1048576) (hC : Cur w g A xs.length c) (hS : CodeS w g A xs) :
    Calls Try.prog 76 #[.pointer (some ⟨g, 0, none⟩), .int .i64 m] w (Draws (m - 1) w g A xs.length c) := by
  have HC := Lib.hid (l01Byte_any w g A c xs hx hC hS)
  clear hC hS
  go_enter Try.func76, Try.ntmps76
  go_wp2_with fail
  refine HC.out.mono ?_
  rintro e w1 ⟨x, rfl, hx0, hx1, hC1, hb1, hfr⟩
  have HFR := Lib.hid hfr
  clear hfr
  go_wp2
  go_ret
  exact ⟨_, rfl, Int.emod_nonneg _ (by omega), by have := Int.emod_lt_of_pos x (show 0 < m by omega); omega, hC1, hb1, HFR.out⟩
set_option maxRecDepth 100000 in
set_option maxHeartbeats 1000000 in
theorem l01New_any (w : World) (A : Option Addr) (c : Nat) (xs : List Int) (hx : xs.length ≤ 1048576) (hS : CodeS w w.heap.size A xs) :
    Calls Try.prog 53 #[.slice A xs.length c] w fun e w' => ∃ N, e = .returned (.pointer (some ⟨N, 0, none⟩)) ∧ w.heap.size ≤ N ∧ Cur w' N A xs.length c ∧ Below w.heap.size w w' := by
  have HS := Lib.hid hS
  clear hS
  go_enter Try.func53, Try.ntmps53
  go_wp2
  go_loopw [3, 4] (fun h i wr => ∃ (k : Nat) (z : Int), k ≤ xs.length ∧ i = .int .i64 k ∧ h = .int .i64 z ∧ 0 ≤ z ∧ z ≤ 1073741823 ∧ Below w.heap.size w wr) (fun _ i _ => xs.length - (intOf i).toNat)
  case atStart => exact ⟨0, _, Nat.zero_le _, rfl, rfl, by omega, by omega, Below.refl _ _⟩
  case round =>
    obtain ⟨k, z, hk, rfl, rfl, hz0, hz1, hb⟩ := hrel
    have HB := Lib.hid hb
    clear hb
    by_cases hlt : k < xs.length
    · have hj0 : (0 : Int) ≤ (k : Int) := Int.natCast_nonneg _
      have hj1 : (k : Int) < (xs.length : Int) := by omega
      obtain ⟨b, off, y, rfl, hb1, hcz, hy0, hy1⟩ := (HS.out.keep HB.out).at_ hlt
      by_cases h4 : (k : Int) < 4000
      · go_wp2
        exact ⟨⟨k + 1, _, by omega, by go_num, rfl, by rw [and30]; omega, by rw [and30]; omega, HB.out⟩, by simp [intOf]; omega⟩
      · have h5 : (4000 : Int) ≤ (k : Int) := by omega
        clear h4
        go_wp2
        go_ret
        exact ⟨wr.heap.size, rfl, HB.out.size, ⟨0, z, Nat.zero_le _, by omega, by omega, Blk.new wr _ _⟩, HB.out.alloc HB.out.size _⟩
    · have hj1 : (xs.length : Int) ≤ (k : Int) := by omega
      go_wp2
      go_ret
      exact ⟨wr.heap.size, rfl, HB.out.size, ⟨0, z, Nat.zero_le _, by omega, by omega, Blk.new wr _ _⟩, HB.out.alloc HB.out.size _⟩
set_option maxRecDepth 100000 in
set_option maxHeartbeats 1000000 in
theorem l21New_any (m : Nat) (hm : m ≤ 1000) (w : World) (A : Option Addr) (c : Nat) (xs : List Int) (hx : xs.length ≤ 1048576) (hS : CodeS w w.heap.size A xs) :
    Calls Try.prog 68 #[.slice A xs.length c, .int .i64 m] w fun e w' => ∃ N, e = .returned (.pointer (some ⟨N, 0, none⟩)) ∧ w.heap.size ≤ N ∧ Cur w' N A xs.length c ∧ Below w.heap.size w w' := by
  have HS := Lib.hid hS
  have HN := Lib.hid (l01New_any w A c xs hx hS)
  have HC := fun w g h1 h2 => Lib.hid (l01Byte_any w g A c xs hx h1 h2)
  clear hS
  have hm2 : (m : Int) ≤ 1000 := by omega
  go_enter Try.func68, Try.ntmps68
  go_wp2_with fail
  refine HN.out.mono ?_
  rintro e w1 ⟨N, rfl, hN, hC, hb⟩
  have HC1 := Lib.hid hC
  clear hC
  go_wp2_with fail
  go_loopw [6] (fun i wr => ∃ (k : Nat), k ≤ m ∧ i = .int .i64 k ∧ Cur wr N A xs.length c ∧ Below w.heap.size w wr) (fun i _ => m - (intOf i).toNat)
  case atStart => exact ⟨0, Nat.zero_le _, rfl, HC1.out, hb⟩
  case round =>
    obtain ⟨k, hk, rfl, hcur, hb1⟩ := hrel
    by_cases hlt : k < m
    · have hj0 : (0 : Int) ≤ (k : Int) := Int.natCast_nonneg _
      have hj1 : (k : Int) < (m : Int) := by omega
      have hS1 : CodeS wr N A xs := by
        refine ⟨HS.out.1, fun hn => ?_⟩
        obtain ⟨b, off, e, hb2, hc⟩ := (HS.out.keep hb1).2 hn
        exact ⟨b, off, e, by omega, hc⟩
      have HH := HC wr N hcur hS1
      clear hS1 hcur
      go_wp2_with fail
      refine HH.out.mono ?_
      rintro e w2 ⟨x, rfl, hx0, hx1, hC2, hb2, -⟩
      have hb3 := hb1.trans (hb2.mono hN)
      have HC2 := Lib.hid hC2
      clear hC2 hb2 hb1
      go_wp2
      exact ⟨⟨k + 1, by omega, by go_num, HC2.out, hb3⟩, by simp [intOf]; omega⟩
    · have hj1 : (m : Int) ≤ (k : Int) := by omega
      have HC2 := Lib.hid hcur
      clear hcur
      go_wp2
      go_ret
      exact ⟨N, rfl, hN, HC2.out, hb1⟩
theorem CodeS.up {w : World} {B B' : Nat} {A : Option Addr} {xs : List Int} (h : CodeS w B A xs) (hB : B ≤ B') : CodeS w B' A xs :=
  ⟨h.1, fun hn => by
    obtain ⟨b, off, e, hb2, hc⟩ := h.2 hn
    exact ⟨b, off, e, by omega, hc⟩⟩
set_option maxRecDepth 100000 in
set_option maxHeartbeats 1000000 in
theorem makeNum_any (m : Nat) (hm : m ≤ 1000) (w : World) (A : Option Addr) (c : Nat) (xs : List Int) (hx : xs.length ≤ 1048576) (hS : CodeS w w.heap.size A xs) :
    Calls Try.prog 23 #[.slice A xs.length c, .int .i64 m] w fun e w' => ∃ x, e = .returned (.int .i64 x) ∧ 0 ≤ x ∧ x ≤ 65535 ∧ Below w.heap.size w w' := by
  have HS := Lib.hid hS
  have HN := Lib.hid (l21New_any m hm w A c xs hx hS)
  have HC := fun w g h1 h2 => Lib.hid (l01Byte_any w g A c xs hx h1 h2)
  clear hS
  have hm2 : (m : Int) ≤ 1000 := by omega
  go_enter Try.func23, Try.ntmps23
  go_wp2_with fail
  refine HN.out.mono ?_
  rintro e w1 ⟨N, rfl, hN, hC, hb⟩
  have H1 := HC w1 N hC ((HS.out.keep hb).up hN)
  clear hC
  go_wp2_with fail
  refine H1.out.mono ?_
  rintro e w2 ⟨x, rfl, hx0, hx1, hC2, hb2, -⟩
  have hb3 := hb.trans (hb2.mono hN)
  have H2 := HC w2 N hC2 ((HS.out.keep hb3).up hN)
  clear hC2 hb hb2
  go_wp2_with fail
  refine H2.out.mono ?_
  rintro e w3 ⟨y, rfl, hy0, hy1, -, hb2, -⟩
  have hb4 := hb3.trans (hb2.mono hN)
  clear hb3 hb2
  go_wp2
  go_ret
  exact ⟨_, rfl, by omega, by omega, hb4⟩
end Go.Proofs.Ytbojbifpaecbcaa
