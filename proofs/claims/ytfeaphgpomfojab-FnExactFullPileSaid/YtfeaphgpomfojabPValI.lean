/- The program's valence of a board. -/
import Derived.Test.YtfeaphgpomfojabPBI
import Derived.Test.YtfeaphgpomfojabPBG
namespace Go.Proofs.Ytfeaphgpomfojab
open Go.RowKit

theorem net_self {v : Nat} {e : Int × Int} (h : e.1 < e.2) : net (v : Int) v e = if (v : Int) = e.1 ∨ (v : Int) = e.2 then -1 else 0 := by
  unfold net ind
  repeat' split
  all_goals omega
set_option maxRecDepth 100000 in
set_option maxHeartbeats 2000000 in
theorem valence_any (pb cA v B : Nat) (A : Option Addr) (G : Value) (es : List (Int × Int)) (w : World) (hBw : B ≤ w.heap.size) (hn : es.length ≤ 12) (hes : ∀ e ∈ es, e.1 < e.2) (hB : Blk w pb 65 #[.slice A es.length cA, G]) (hE : EdgeS w B A es) :
    Calls Try.prog 71 #[.pointer (some ⟨pb, 0, none⟩), .int .i64 (v : Int)] w fun e w' => e = .returned (.int .i64 (-nets (v : Int) v es)) ∧ Below w.heap.size w w' := by
  have q0 : w.cell? ⟨pb, 0, none⟩ = some (.slice A es.length cA) := by rw [hB.cell]; rfl
  have HE := Lib.hid hE
  have HES := Lib.hid hes
  clear hE hes hB
  go_enter Try.func71, Try.ntmps71
  go_wp2
  go_loopw [5, 13] (fun n i wr => ∃ k : Nat, k ≤ es.length ∧ i = .int .i64 k ∧ n = .int .i64 (-nets (v : Int) v (es.take k)) ∧ Below w.heap.size w wr) (fun _ i _ => es.length - (intOf i).toNat)
  case atStart => exact ⟨0, Nat.zero_le _, rfl, by simp [nets], Below.refl _ _⟩
  case round =>
    obtain ⟨k, hk, rfl, rfl, hb⟩ := hrel
    have HB := Lib.hid hb
    have hbw := hb.size
    clear hb q0
    by_cases hlt : k < es.length
    · obtain ⟨b1, o1, e, rfl, hb1, he, hc0, hc1⟩ := (HE.out.keep (fun p hp => HB.out.cell (by omega)) (Nat.le_refl _)).at_ hlt
      have hlt2 := HES.out e (List.mem_of_getElem? he)
      have hi0 : (0 : Int) ≤ (k : Int) := Int.natCast_nonneg _
      have hi1 : (k : Int) < (es.length : Int) := by omega
      have hns := nets_self v (es.take k) (fun x hx => HES.out x (List.mem_of_mem_take hx))
      have hnk : (es.take k).length ≤ 12 := by rw [List.length_take]; omega
      have HN := Lib.hid ((nets_snoc (v : Int) v he).trans (by rw [net_self hlt2]))
      have HBA := Lib.hid (HB.out.alloc HB.out.size (Obj.cells #[.int .i64 e.1, .int .i64 e.2] 94))
      obtain ⟨x, hx⟩ : ∃ x, x = nets (v : Int) v (es.take k) := ⟨_, rfl⟩
      rw [← hx] at hns HN ⊢
      have hx0 : -12 ≤ x := by omega
      have hx1 : x ≤ 0 := hns.2
      have hx2 : 0 ≤ -x := by omega
      have hx3 : -x ≤ 12 := by omega
      clear hx he hns hnk hlt2
      by_cases h1 : e.1 = (v : Int)
      · have t1 : (e.1 == (v : Int)) = true := by simp [h1]
        have HN2 := Lib.hid (HN.out.trans (by rw [if_pos (.inl h1.symm)]))
        clear h1
        go_wp2
        exact ⟨⟨k + 1, by omega, by go_num, by rw [HN2.out]; congr 1; omega, HBA.out⟩, by simp [intOf]; omega⟩
      · have t1 : (e.1 == (v : Int)) = false := by simp [h1]
        by_cases h2 : e.2 = (v : Int)
        · have t2 : (e.2 == (v : Int)) = true := by simp [h2]
          have HN2 := Lib.hid (HN.out.trans (by rw [if_pos (.inr h2.symm)]))
          clear h1 h2
          go_wp2
          exact ⟨⟨k + 1, by omega, by go_num, by rw [HN2.out]; congr 1; omega, HBA.out⟩, by simp [intOf]; omega⟩
        · have t2 : (e.2 == (v : Int)) = false := by simp [h2]
          have HN2 := Lib.hid (HN.out.trans (by rw [if_neg (by omega)]))
          clear h1 h2
          go_wp2
          exact ⟨⟨k + 1, by omega, by go_num, by rw [HN2.out]; congr 1; omega, HBA.out⟩, by simp [intOf]; omega⟩
    · have HQ := Lib.hid (show es.take k = es from List.take_of_length_le (by omega))
      rw [HQ.out]
      go_wp2
      go_ret
      exact ⟨rfl, HB.out⟩

end Go.Proofs.Ytfeaphgpomfojab
