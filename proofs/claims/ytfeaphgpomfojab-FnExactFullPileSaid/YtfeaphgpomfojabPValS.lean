/- Valence: the specification's loop over the edges and the program's sum over the map of counts are one plain number. -/
import Derived.Test.YtfeaphgpomfojabPBF
namespace Go.Proofs.Ytfeaphgpomfojab
open Go.RowKit Go.Maps

def touch (v : Int) (e : Int × Int) : Bool := (e.1 == v) || (e.2 == v)
theorem filter_snoc {es : List (Int × Int)} {k : Nat} {e : Int × Int} {p : Int × Int → Bool} (he : es[k]? = some e) : ((es.take (k + 1)).filter p).length = ((es.take k).filter p).length + if p e = true then 1 else 0 := by
  rw [List.take_add_one, he, List.filter_append]
  by_cases h : p e = true <;> simp [h]
theorem filter_le {es : List (Int × Int)} (k : Nat) (p : Int × Int → Bool) : ((es.take k).filter p).length ≤ k := by
  have h1 := List.length_filter_le p (es.take k)
  simp only [List.length_take] at h1
  omega

set_option maxHeartbeats 1000000 in
theorem specVal_yes (N : Int) (A : Option Addr) (c : Nat) (es : List (Int × Int)) (v : Int) (w : World) (hn : es.length ≤ 1048576) (ha : vB v N = true) (hE : EdgeS w w.heap.size A es) :
    Calls Try.prog 59 #[.agg #[.int .i64 N, .slice A es.length c], .int .i64 v] w fun e w' => e = .returned (.int .i64 (es.filter (touch v)).length) ∧ Below w.heap.size w w' := by
  have HE := Lib.hid hE
  clear hE
  go_enter Try.func59, Try.ntmps59
  go_wp2_with fail
  refine (l02Vert_any _ _ _ _ ⟨_, _, _, rfl⟩).mono ?_
  rintro e w1 ⟨rfl, hb1⟩
  have hk1 := (Blk.new w 25 #[.int .i64 N, .slice A es.length c]).below hb1 (by simp)
  have B1 := ((Below.refl w.heap.size w).alloc (Nat.le_refl _) (.cells #[.int .i64 N, .slice A es.length c] 25)).trans (hb1.mono (by simp))
  have c1 : w1.cell? ⟨w.heap.size, 1, none⟩ = some (.slice A es.length c) := by rw [hk1.cell]; rfl
  clear hb1 hk1
  go_wp2
  go_loopw [5, 15] (fun n i wr => ∃ k : Nat, k ≤ es.length ∧ i = .int .i64 k ∧ n = .int .i64 ((es.take k).filter (touch v)).length ∧ Below w.heap.size w wr) (fun _ i _ => es.length - (intOf i).toNat)
  case atStart => exact ⟨0, Nat.zero_le _, rfl, rfl, B1⟩
  case round =>
    obtain ⟨k, hk, rfl, rfl, hbw⟩ := hrel
    clear c1
    by_cases hlt : k < es.length
    · obtain ⟨b1, o1, e, rfl, hb1, he, hc0, hc1⟩ := (HE.out.below hbw).at_ hlt
      have hi0 : (0 : Int) ≤ (k : Int) := Int.natCast_nonneg _
      have hi1 : (k : Int) < (es.length : Int) := by omega
      have HS := Lib.hid (filter_snoc (p := touch v) he)
      have hcl := filter_le (es := es) k (touch v)
      have hz0 : (0 : Int) ≤ (((es.take k).filter (touch v)).length : Int) := Int.natCast_nonneg _
      clear he
      by_cases h1 : e.1 = v
      · have t1 : (e.1 == v) = true := by rw [beq_iff_eq]; exact h1
        have HQ := HS.out
        rw [if_pos (by simp [touch, h1])] at HQ
        have HQ2 := Lib.hid HQ
        clear HQ h1
        go_wp2
        exact ⟨⟨k + 1, by omega, by go_num, by rw [HQ2.out]; go_num, hbw.alloc hbw.size _⟩, by simp [intOf]; omega⟩
      · have t1 : (e.1 == v) = false := by rw [beq_eq_false_iff_ne]; exact h1
        by_cases h2 : e.2 = v
        · have t2 : (e.2 == v) = true := by rw [beq_iff_eq]; exact h2
          have HQ := HS.out
          rw [if_pos (by simp [touch, h2])] at HQ
          have HQ2 := Lib.hid HQ
          clear HQ h1 h2
          go_wp2
          exact ⟨⟨k + 1, by omega, by go_num, by rw [HQ2.out]; go_num, hbw.alloc hbw.size _⟩, by simp [intOf]; omega⟩
        · have t2 : (e.2 == v) = false := by rw [beq_eq_false_iff_ne]; exact h2
          have HQ := HS.out
          rw [if_neg (by simp [touch, h1, h2])] at HQ
          have HQ2 := Lib.hid HQ
          clear HQ h1 h2
          go_wp2
          exact ⟨⟨k + 1, by omega, by go_num, by rw [HQ2.out]; rfl, hbw.alloc hbw.size _⟩, by simp [intOf]; omega⟩
    · have HA := Lib.hid (show ((es.take k).filter (touch v)).length = (es.filter (touch v)).length by rw [List.take_of_length_le (by omega)])
      go_wp2
      go_ret
      exact ⟨ret_intE (congrArg Int.ofNat HA.out), hbw⟩
/-! ### the sum over the map -/
end Go.Proofs.Ytfeaphgpomfojab
