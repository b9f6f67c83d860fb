/- The program's InvariantFactors. -/
import Derived.Test.YtbmihbbpdmpmpaaInvC
import Derived.Laws.EntriesVeiled
namespace Go.Proofs.Ytbmihbbpdmpmpaa
open Go.RowKit

theorem collect_divs {rs : List (List Int)} (h6 : rs.length ≤ 6) : collectF rs.length 0 [] (rs.map rowF) (List.replicate rs.length 0) = divsB rs := by
  have hm : rs.map rowF = (List.range rs.length).map (rowAt rs) := (pick_all rs).symm
  apply List.ext_getElem?
  intro k
  by_cases hk : k < rs.length
  · rw [divsB_at hk]
    have h := collect_sets (k := k) (rowAt rs) h6 hk
    rw [← hm] at h
    have hl : k < (collectF rs.length 0 [] (rs.map rowF) (List.replicate rs.length 0)).length := by rw [collectF_len]; simpa using hk
    rw [List.getD_eq_getElem?_getD, List.getElem?_eq_getElem hl, Option.getD_some] at h
    rw [List.getElem?_eq_getElem hl, h]
  · rw [List.getElem?_eq_none (by rw [collectF_len]; simpa using hk), List.getElem?_eq_none (by rw [divsB_len]; omega)]
set_option maxRecDepth 100000 in
set_option maxHeartbeats 4000000 in
theorem minorDivisors_any (A : Option Addr) (c : Nat) (rs : List (List Int)) (w : World) (hc : rs.length ≤ c) (h6 : rs.length ≤ 6) (hent : ∀ r ∈ rs, r.length = rs.length ∧ ∀ x ∈ r, -500 ≤ x ∧ x ≤ 500) (hS : IntSS w w.heap.size A rs) :
    Calls Try.prog 75 #[.slice A rs.length c] w (GivesInts w (natI (divsB rs))) := by
  have hmk := make_ints rs.length (by omega)
  have HNR0 : ∀ w, Calls Try.prog 92 #[.int .i64 (rs.length : Int)] w (GivesV w (2 ^ rs.length) (vals rs.length [])) := fun w => (noRows_any rs.length w h6).mono fun e w' ⟨A9, c9, he, ho, hb⟩ => by
    have hcv : chipsOf (2 ^ rs.length) (minorA rs.length []) = vals rs.length [] := chips_vals (by simp) (fun r h => by simp at h)
    rw [hcv] at he ho
    exact ⟨A9, c9, by rw [he, vals_len], ho, hb⟩
  have HNR := fun w => Lib.hid (HNR0 w)
  have HCA := Lib.hid (fun t dB dg cB h1 h2 => collect_any rs.length h6 t dB dg cB h1 h2)
  obtain ⟨K, hK⟩ : ∃ K, K = 2 ^ rs.length := ⟨_, rfl⟩
  rw [← hK] at HNR HCA
  have HCD := Lib.hid (collect_divs h6)
  have HDL := Lib.hid (divsB_len rs)
  have HS := Lib.hid hS
  have HENT := Lib.hid hent
  have HRZ := Lib.hid (show intCells (List.replicate rs.length 0) = intCells (natI (List.replicate rs.length 0)) by simp [natI])
  have hmf : ∀ (fn : Fn) (first cap : Array Value) (w : World), (Instr.makeFunc fn first cap).run Try.prog w = .ok (.func fn first cap) w := fun _ _ _ _ => rfl
  obtain ⟨W0, hW0⟩ : ∃ W0, W0 = (w.alloc (Obj.cells (intCells (List.replicate rs.length 0)).toArray 3)).alloc (Obj.cells #[.slice (some ⟨w.heap.size, 0, none⟩) rs.length rs.length] 43) := ⟨_, rfl⟩
  have hsz0 : W0.heap.size = w.heap.size + 1 + 1 := by rw [hW0, World.size_alloc, World.size_alloc]
  have hcl : (W0.alloc (Obj.cells #[.nilFunc] 103)).cell? ⟨w.heap.size + 1 + 1, 0, none⟩ = some .nilFunc := by
    have h := Blk.new W0 103 #[.nilFunc]
    rw [hsz0] at h
    rw [h.cell]; rfl
  have hfz : (W0.alloc (Obj.cells #[.nilFunc] 103)).frozen? ⟨w.heap.size + 1 + 1, 0, none⟩ = false := by
    have h := Blk.new W0 103 #[.nilFunc]
    rw [hsz0] at h
    exact h.frozen 0
  have hk5 : Blk (W0.alloc (Obj.cells #[(.func (.func 99) #[] #[.pointer (some ⟨w.heap.size + 1, 0, none⟩), .pointer (some ⟨w.heap.size + 1 + 1, 0, none⟩)])] 103)) w.heap.size 3 (intCells (List.replicate rs.length 0)).toArray := by rw [hW0]; exact ((Blk.new w _ _).alloc _).alloc _
  have hk4 : Blk (W0.alloc (Obj.cells #[(.func (.func 99) #[] #[.pointer (some ⟨w.heap.size + 1, 0, none⟩), .pointer (some ⟨w.heap.size + 1 + 1, 0, none⟩)])] 103)) (w.heap.size + 1) 43 #[.slice (some ⟨w.heap.size, 0, none⟩) rs.length rs.length] := by
    rw [hW0]
    have h := (Blk.new (w.alloc (Obj.cells (intCells (List.replicate rs.length 0)).toArray 3)) 43 #[.slice (some ⟨w.heap.size, 0, none⟩) rs.length rs.length]).alloc (Obj.cells #[(.func (.func 99) #[] #[.pointer (some ⟨w.heap.size + 1, 0, none⟩), .pointer (some ⟨w.heap.size + 1 + 1, 0, none⟩)])] 103)
    rwa [World.size_alloc] at h
  have hk3 : Blk (W0.alloc (Obj.cells #[(.func (.func 99) #[] #[.pointer (some ⟨w.heap.size + 1, 0, none⟩), .pointer (some ⟨w.heap.size + 1 + 1, 0, none⟩)])] 103)) (w.heap.size + 1 + 1) 103 #[(.func (.func 99) #[] #[.pointer (some ⟨w.heap.size + 1, 0, none⟩), .pointer (some ⟨w.heap.size + 1 + 1, 0, none⟩)])] := by
    have h := Blk.new W0 103 #[(.func (.func 99) #[] #[.pointer (some ⟨w.heap.size + 1, 0, none⟩), .pointer (some ⟨w.heap.size + 1 + 1, 0, none⟩)])]
    rwa [hsz0] at h
  have hb4 : Below w.heap.size w (W0.alloc (Obj.cells #[(.func (.func 99) #[] #[.pointer (some ⟨w.heap.size + 1, 0, none⟩), .pointer (some ⟨w.heap.size + 1 + 1, 0, none⟩)])] 103)) := by rw [hW0]; exact (((Below.refl _ _).alloc (Nat.le_refl _) _).alloc (by simp) _).alloc (by simp; omega) _
  obtain ⟨W4, hW4⟩ : ∃ W4, W4 = W0.alloc (Obj.cells #[(.func (.func 99) #[] #[.pointer (some ⟨w.heap.size + 1, 0, none⟩), .pointer (some ⟨w.heap.size + 1 + 1, 0, none⟩)])] 103) := ⟨_, rfl⟩
  rw [← hW4] at hk3 hk4 hk5 hb4
  rw [hW0] at hcl hfz hW4
  rw [HRZ.out] at hk5
  have HK3 := Lib.hid hk3
  have HK4 := Lib.hid hk4
  have HK5 := Lib.hid hk5
  have HB4 := Lib.hid hb4
  clear hS hent hK HNR0 hk3 hk4 hk5 hb4 hW0 hsz0
  go_enter Try.func75, Try.ntmps75
  go_wp2_with fail
  rw [← hW4]
  have d1 : W4.cell? ⟨w.heap.size + 1 + 1, 0, none⟩ = some (.func (.func 99) #[] #[.pointer (some ⟨w.heap.size + 1, 0, none⟩), .pointer (some ⟨w.heap.size + 1 + 1, 0, none⟩)]) := by rw [HK3.out.cell]; rfl
  have hs4 := HB4.out.size
  have hl3 : w.heap.size + 1 + 1 < W4.heap.size := HK3.out.lt
  have FIN : ∀ (w5 : World) (A5 : Option Addr) (c5 : Nat), OwnI w5 W4.heap.size A5 (vals rs.length []) → Below W4.heap.size W4 w5 → Hid (Calls Try.prog 99 #[.int .i64 0, .slice A5 K c5, .slice A rs.length c, .pointer (some ⟨w.heap.size + 1, 0, none⟩), .pointer (some ⟨w.heap.size + 1 + 1, 0, none⟩)] w5 (Collected w5 w.heap.size (divsB rs))) := fun w5 A5 c5 ho hb => Lib.hid (by
    have h := HCA.out 103 (w.heap.size + 1) w.heap.size (w.heap.size + 1 + 1) (by omega) (by omega) rs.length rs 0 [] (List.replicate rs.length 0) A5 A c5 c w.heap.size W4.heap.size w5 (Nat.le_refl _) (by omega) rfl (by simp) (fun d hd => by rw [List.eq_of_mem_replicate hd]; omega) (fun r hr => by simp at hr) HENT.out hc (by omega) (Nat.le_refl _) (by have := hb.size; omega) ho (HS.out.keep (fun p hp => ((hb.mono hs4).cell hp).trans (HB4.out.cell hp)) (Nat.le_refl _)) (HK4.out.below hb (by omega)) (HK3.out.below hb hl3) (HK5.out.below hb (by omega))
    rw [HCD.out] at h
    exact h)
  have KEEP : ∀ (w5 w6 : World), Below W4.heap.size W4 w5 → Moves w.heap.size (w.heap.size + 1) w5 w6 → w6.cell? ⟨w.heap.size + 1 + 1, 0, none⟩ = some (.func (.func 99) #[] #[.pointer (some ⟨w.heap.size + 1, 0, none⟩), .pointer (some ⟨w.heap.size + 1 + 1, 0, none⟩)]) := fun w5 w6 hb hm => by
    rw [((HK3.out.below hb hl3).moves hm (by omega)).cell]; rfl
  have KEEP2 : ∀ (w5 : World), Below W4.heap.size W4 w5 → w5.cell? ⟨w.heap.size + 1 + 1, 0, none⟩ = some (.func (.func 99) #[] #[.pointer (some ⟨w.heap.size + 1, 0, none⟩), .pointer (some ⟨w.heap.size + 1 + 1, 0, none⟩)]) := fun w5 hb => by
    rw [(HK3.out.below hb hl3).cell]; rfl
  have HFIN := Lib.hid FIN
  have HKEEP := Lib.hid KEEP
  have HKEEP2 := Lib.hid KEEP2
  clear FIN KEEP KEEP2 hW4 HK5 hcl hfz
  go_region_held3 (fun w' => w'.cell? ⟨w.heap.size + 1 + 1, 0, none⟩ = some (.func (.func 99) #[] #[.pointer (some ⟨w.heap.size + 1, 0, none⟩), .pointer (some ⟨w.heap.size + 1 + 1, 0, none⟩)]))
    (first
      | exact d1
      | exact HKEEP2.out _ hb5
      | exact HKEEP.out _ _ hb5 hm6)
    (first
      | (go_at_call 92; refine (HNR _).out.mono ?_; rintro e w5 ⟨A5, c5, rfl, ho5, hb5'⟩; have hb5 : Below W4.heap.size W4 w5 := (Below.refl W4.heap.size W4).drew.trans hb5')
      | (go_at_call 99; refine (HFIN.out _ _ _ ho5 hb5).out.mono ?_; rintro e w6 ⟨rfl, hd6, hm6⟩))
  have hk6 : Blk w6 (w.heap.size + 1) 43 #[.slice (some ⟨w.heap.size, 0, none⟩) rs.length rs.length] := (HK4.out.below hb5 (by omega)).moves hm6 (by omega)
  have hc6 : w6.cell? ⟨w.heap.size + 1, 0, none⟩ = some (.slice (some ⟨w.heap.size, 0, none⟩) rs.length rs.length) := by rw [hk6.cell]; rfl
  have HD6 := Lib.hid hd6
  have HB6 := Lib.hid (belowMoves (HB4.out.trans (hb5.mono hs4)) hm6 (Nat.le_refl _) (by have := hb5.size; omega))
  have HLEN := Lib.hid (natI_len (divsB rs))
  clear hd6 hm6 hb5 ho5 hk6
  go_wp2
  go_ret
  exact ⟨some ⟨w.heap.size, 0, none⟩, rs.length, by rw [HLEN.out, HDL.out]; rfl, OwnI.of_blk HD6.out (Nat.le_refl _), HB6.out⟩
end Go.Proofs.Ytbmihbbpdmpmpaa
