/- The program's firings. -/
import Derived.Test.YtcfhkaefjhcglaaRdJ
namespace Go.Proofs.Ytcfhkaefjhcglaa
open Go.RowKit

/-- a number of firings that the first vertices of a set allow -/
def Allow (c h : Nat → Int) (l : List Int) (T : Int) : Prop := 1 ≤ T ∧ T ≤ 9223372036854775807 ∧ ∀ v : Nat, (v : Int) ∈ l → 0 < h v → T ≤ (c v).tdiv (h v)
theorem Allow.start (c h : Nat → Int) : Allow c h [] 9223372036854775807 := ⟨by omega, by omega, fun v hv => by simp at hv⟩
theorem Allow.skip {c h : Nat → Int} {l : List Int} {T : Int} {v : Nat} (a : Allow c h l T) (hv : ¬ 0 < h v) : Allow c h (l ++ [(v : Int)]) T := ⟨a.1, a.2.1, fun u hu hp => by
  rw [List.mem_append, List.mem_singleton] at hu
  rcases hu with hu | hu
  · exact a.2.2 u hu hp
  · rw [show u = v by omega] at hp
    exact absurd hp hv⟩
theorem quo_pos {x y : Int} (hy : 0 < y) (h : y ≤ x) : 1 ≤ x.tdiv y ∧ x.tdiv y ≤ x ∧ x.tdiv y * y ≤ x := by
  rw [Int.tdiv_eq_ediv_of_nonneg (by omega)]
  have h1 := Int.ediv_mul_le x (show y ≠ 0 by omega)
  have h2 : 1 ≤ x / y := by
    rw [Int.le_ediv_iff_mul_le hy]
    omega
  have h3 : x / y ≤ x := Int.ediv_le_self _ (by omega)
  exact ⟨h2, h3, h1⟩
theorem Allow.take {c h : Nat → Int} {l : List Int} {T : Int} {v : Nat} (a : Allow c h l T) (hv : 0 < h v) (hc : h v ≤ c v) : Allow c h (l ++ [(v : Int)]) (min T ((c v).tdiv (h v))) := by
  have hq := quo_pos hv hc
  refine ⟨by have := a.1; omega, by have := a.2.1; omega, fun u hu hp => ?_⟩
  rw [List.mem_append, List.mem_singleton] at hu
  rcases hu with hu | hu
  · have := a.2.2 u hu hp
    omega
  · rw [show u = v by omega]
    omega
theorem take_snocK {l : List Int} {k : Nat} {x : Int} (h : l[k]? = some x) : l.take (k + 1) = l.take k ++ [x] := by rw [List.take_add_one, h]; rfl
set_option maxRecDepth 100000 in
set_option maxHeartbeats 4000000 in
theorem firings_any (B base pf gh ch pb M g cg : Nat) (E : Value) (S : Option Addr) (cs BS : Nat) (f h : Nat → Int) (ord l : List Int) (w : World) (hM : M ≤ 6) (hl : l.length ≤ 6) (hlb : ∀ x ∈ l, 0 ≤ x ∧ x < (M : Int))
    (hf : ∀ u, u < M → -1000000000000 ≤ f u ∧ f u ≤ 1000000000000) (hh : ∀ u, 0 ≤ h u ∧ h u ≤ 24) (hc : ∀ v : Nat, (v : Int) ∈ l → h v ≤ f v)
    (hB : Blk w pb 69 #[E, .slice (some ⟨g, 0, none⟩) M cg]) (hC : Chips w g (chipsOf M f)) (hS : IntS w BS S l) (hBS : BS ≤ w.heap.size) (hZ : Blaze w B base pf gh ch pb M ord h) :
    Calls Try.prog 131 #[.pointer (some ⟨pf, 0, none⟩), .slice S l.length cs] w fun e w' => (∃ T, e = .returned (.int .i64 T) ∧ Allow f h l T) ∧ Below w.heap.size w w' := by
  obtain ⟨O, co, hbx, hown⟩ := hZ.box
  have HBX := Lib.hid hbx
  have HB := Lib.hid hB
  have HC := Lib.hid hC
  have HS := Lib.hid hS
  have HH := Lib.hid hZ.heat
  have HF := Lib.hid hf
  have HHB := Lib.hid hh
  have HLB := Lib.hid hlb
  have HCC := Lib.hid hc
  clear hbx hB hC hS hZ hf hh hlb hc hown
  go_enter Try.func131, Try.ntmps131
  go_wp2
  go_loopw [5, 7, 10] (fun t _ i wr => ∃ (k : Nat) (T : Int), k ≤ l.length ∧ i = .int .i64 k ∧ t = .int .i64 T ∧ Allow f h (l.take k) T ∧ Below w.heap.size w wr) (fun _ _ i _ => l.length - (intOf i).toNat)
  case atStart => exact ⟨0, _, Nat.zero_le _, rfl, rfl, Allow.start f h, Below.refl _ _⟩
  case round =>
    obtain ⟨k, T, hk, rfl, rfl, hal, hb⟩ := hrel
    have HAL := Lib.hid hal
    have HBW := Lib.hid hb
    clear hal hb
    by_cases hlt : k < l.length
    · obtain ⟨b1, o1, x, rfl, hb1, he, hc0⟩ := (HS.out.keep (fun p hp => HBW.out.cell (by omega)) (Nat.le_refl _)).at_ hlt
      have hi0 : (0 : Int) ≤ (k : Int) := Int.natCast_nonneg _
      have hi1 : (k : Int) < (l.length : Int) := by omega
      obtain ⟨hx0, hx1⟩ := HLB.out x (List.mem_of_getElem? he)
      obtain ⟨v, rfl⟩ : ∃ v : Nat, x = (v : Int) := ⟨x.toNat, by omega⟩
      have hvM : v < M := by omega
      have hcc := HCC.out v (List.mem_of_getElem? he)
      have HT := Lib.hid (take_snocK he)
      have hx6 : (v : Int) ≤ 6 := by omega
      have p2 : wr.cell? ⟨pf, 2, none⟩ = some (.slice (some ⟨gh, 0, none⟩) M ch) := by rw [(HBX.out.below HBW.out HBX.out.lt).cell]; rfl
      have p0 : wr.cell? ⟨pf, 0, none⟩ = some (.pointer (some ⟨pb, 0, none⟩)) := by rw [(HBX.out.below HBW.out HBX.out.lt).cell]; rfl
      have p3 : wr.cell? ⟨pb, 1, none⟩ = some (.slice (some ⟨g, 0, none⟩) M cg) := by rw [(HB.out.below HBW.out HB.out.lt).cell]; rfl
      have hhv := HHB.out v
      have hfv := HF.out v hvM
      have p4 : wr.cell? ⟨gh, v, none⟩ = some (.int .i64 (h v)) := by
        have := ((HH.out.below HBW.out).cell v _ (chipsOf_at _ hvM)).1
        rw [wrap64_of (by omega) (by omega)] at this
        exact this
      have p5 : wr.cell? ⟨g, v, none⟩ = some (.int .i64 (f v)) := by
        have := ((HC.out.below HBW.out).cell v _ (chipsOf_at _ hvM)).1
        rw [wrap64_of (by omega) (by omega)] at this
        exact this
      have hT1 := HAL.out.1
      have hT2 := HAL.out.2.1
      have HSK := Lib.hid (fun (hn : ¬ 0 < h v) => HAL.out.skip hn)
      have HTK := Lib.hid (fun (hn : 0 < h v) => HAL.out.take hn hcc)
      have HQ := Lib.hid (fun (hn : 0 < h v) => quo_pos hn hcc)
      rw [← HT.out] at HSK HTK
      obtain ⟨y, hy⟩ : ∃ y, y = h v := ⟨_, rfl⟩
      obtain ⟨z, hz⟩ : ∃ z, z = f v := ⟨_, rfl⟩
      rw [← hy] at p4 hhv HSK HTK HQ hcc
      rw [← hz] at p5 hfv HTK HQ hcc
      clear he hy hz
      by_cases hpos : 0 < y
      · have t1 : decide (0 < y) = true := decide_eq_true hpos
        have HTK2 := Lib.hid (HTK.out hpos)
        obtain ⟨hq1, hq2, _⟩ := HQ.out hpos
        have hq3 : 0 ≤ z.tdiv y := by omega
        have hq4 : z.tdiv y ≤ 1000000000000 := by omega
        have hy0 : y ≠ 0 := by omega
        have hy1 : (y == 0) = false := by simp; omega
        clear HSK HTK HQ
        go_wp2_with fail
        go_region
        go_wp2
        exact ⟨⟨k + 1, _, by omega, by go_num, rfl, HTK2.out, HBW.out.drew⟩, by simp [intOf]; omega⟩
      · have t1 : decide (0 < y) = false := decide_eq_false hpos
        have HSK2 := Lib.hid (HSK.out hpos)
        clear HSK HTK HQ hpos
        go_wp2
        exact ⟨⟨k + 1, T, by omega, by go_num, rfl, HSK2.out, HBW.out⟩, by simp [intOf]; omega⟩
    · have hal := HAL.out
      rw [List.take_of_length_le (by omega)] at hal
      have HA2 := Lib.hid hal
      clear hal
      go_wp2
      go_ret
      exact ⟨⟨T, rfl, HA2.out⟩, HBW.out⟩
end Go.Proofs.Ytcfhkaefjhcglaa
