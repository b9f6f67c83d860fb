/- IsRecurrent: the program's side. -/
import Derived.Test.YtdpojcgeblbfeaaWRecM
import Derived.Test.YtdpojcgeblbfeaaWBG
import Derived.Test.YtdpojcgeblbfeaaWBT
import Derived.Test.YtdpojcgeblbfeaaWBF
import Derived.Test.YtdpojcgeblbfeaaWBI
import Derived.Test.YtdpojcgeblbfeaaWRcoS
import Derived.OwnWalk
import Derived.Test.YtdpojcgeblbfeaaWPilA
import Derived.Test.YtdpojcgeblbfeaaWBJ
import Derived.Test.YtdpojcgeblbfeaaWBM
import Derived.Test.YtdpojcgeblbfeaaWBE
import Derived.Test.YtdpojcgeblbfeaaWBA
import Derived.Test.YtdpojcgeblbfeaaWRcoI
import Derived.Test.YtdpojcgeblbfeaaWSh
import Derived.Test.YtdpojcgeblbfeaaWPilZ
set_option linter.all false
namespace Go.Proofs.Ytdpojcgeblbfeaa
open Go.RowKit

theorem keepQ {w W W' : World} {p r s t : Addr} {B : Nat} {a b c d : Value} (h : W.cell? p = some a ∧ W.cell? r = some b ∧ W.cell? s = some c ∧ W.cell? t = some d ∧ Below B w W) (hb : Below W.heap.size W W') (hB : B ≤ w.heap.size) :
    W'.cell? p = some a ∧ W'.cell? r = some b ∧ W'.cell? s = some c ∧ W'.cell? t = some d ∧ Below B w W' := by
  obtain ⟨h1, h2, h3, h4, h5⟩ := h
  exact ⟨(hb.cell (World.block_lt_of_cell? W p h1)).trans h1, (hb.cell (World.block_lt_of_cell? W r h2)).trans h2, (hb.cell (World.block_lt_of_cell? W s h3)).trans h3, (hb.cell (World.block_lt_of_cell? W t h4)).trans h4, h5.trans (hb.mono (Nat.le_trans hB h5.size))⟩
theorem filter_both2 (p : Nat → Bool) : ∀ n, ((List.range n).filter p).length + ((List.range n).filter fun v => !p v).length = n
  | 0 => rfl
  | n + 1 => by
    have ih := filter_both2 p n
    rw [List.range_succ, List.filter_append, List.filter_append, List.length_append, List.length_append]
    cases h : p n <;> simp [h] <;> omega
theorem burns_filter2 {M q : Nat} {bs : List Int} (hb : Burns M (q : Int) bs) : ((List.range M).filter fun (v : Nat) => inL bs (v : Int)).length = bs.length := by
  have h1 : (((List.range M).filter fun (v : Nat) => inL bs (v : Int)).map fun (v : Nat) => (v : Int)).length ≤ bs.length := by
    refine nodup_lenB _ bs ?_ fun x hx => ?_
    · have hnd : ((List.range M).filter fun (v : Nat) => inL bs (v : Int)).Nodup := List.nodup_range.sublist List.filter_sublist
      rw [List.nodup_iff_pairwise_ne] at hnd ⊢
      rw [List.pairwise_map]
      exact hnd.imp fun {a b} h e => h (Int.ofNat.inj e)
    · obtain ⟨v, hv, rfl⟩ := List.mem_map.1 hx
      have := (List.mem_filter.1 hv).2
      simpa [inL] using this
  have h2 : bs.length ≤ (((List.range M).filter fun (v : Nat) => inL bs (v : Int)).map fun (v : Nat) => (v : Int)).length := by
    refine nodup_lenB bs _ hb.nodup fun x hx => ?_
    have hx2 := hb.bound x hx
    exact List.mem_map.2 ⟨x.toNat, List.mem_filter.2 ⟨List.mem_range.2 (by omega), by simp [inL, show ((x.toNat : Nat) : Int) = x by omega, hx]⟩, by omega⟩
  rw [List.length_map] at h1 h2
  omega
theorem spared_cnt {M q : Nat} {bs : List Int} (hb : Burns M (q : Int) bs) : bs.length + (sparedL M bs).length = M := by
  have h1 := filter_both2 (fun (v : Nat) => inL bs (v : Int)) M
  rw [burns_filter2 hb] at h1
  unfold sparedL
  rw [List.length_map]
  exact h1
set_option maxRecDepth 100000 in
set_option maxHeartbeats 2000000 in
theorem comes_any (A D F : Option Addr) (c cd cf M k : Nat) (es : List (Int × Int)) (p : List Int) (w : World) (hk : k < M) (hM : M ≤ 6) (hn : es.length ≤ 12) (hes : ∀ e ∈ es, 0 ≤ e.1 ∧ e.1 < e.2 ∧ e.2 < (M : Int)) (hl : p.length = M)
    (hp : ∀ u, -60 ≤ p.getD u 0 ∧ p.getD u 0 ≤ 60) (hz : p.getD k 0 = 0) (hE : EdgeS w w.heap.size A es) (hS : IntS w w.heap.size D p) (hT : IntS w w.heap.size F (fullTo es k M)) :
    Calls Try.prog 65 #[.agg #[.slice D M cd, .slice F M cf, .int .i64 (M : Int), .slice A es.length c, .int .i64 (k : Int)]] w (fun e w' => e = .returned (.bool (decide ((burntL M es (dualL M k es p) (k : Int)).length = M))) ∧ Below w.heap.size w w') := by
  have HE := Lib.hid hE
  have PA := fun (W : World) (hb : Below w.heap.size w W) => Lib.hid (miss_any D F cd cf M p (fullTo es k M) W hM hl (fullTo_len es k M) (hS.up_ hb) (hT.up_ hb))
  rw [add_neg hl hes hn (fun u => by have := hp u; omega) hz] at PA
  have hM0 : 0 < M := by omega
  have PB := fun (X : Option Addr) (cx : Nat) (W : World) (h2 : IntS W W.heap.size X (dualL M k es p)) => Lib.hid (boardOf_any (M : Int) A X es.length c cx (dualL M k es p) W (by rw [dual_len]; exact hM0) (by rw [dual_len]; omega) h2)
  unfold GivesBoard at PB
  rw [dual_len] at PB
  have HBU := Lib.hid (fun (pb g cg : Nat) (W : World) h1 h2 h3 h4 => burn_any pb g cg c M k A es (dualL M k es p) W hM0 hM hk (dual_len _ _ _ _) hn hes h1 h2 h3 h4)
  have hall := (burntL_all (M := M) (es := es) (d := dualL M k es p) (q := (k : Int)) ⟨by omega, by omega⟩).1
  obtain ⟨ord, ho⟩ : ∃ o, o = burntL M es (dualL M k es p) (k : Int) := ⟨_, rfl⟩
  have HCT := Lib.hid (show (((sparedL M ord).length : Int) == 0) = decide (ord.length = M) by
    rw [ho]
    have := spared_cnt hall
    rw [Bool.eq_iff_iff, beq_iff_eq, decide_eq_true_eq]
    constructor <;> intro h <;> omega)
  have HBL := Lib.hid (show 0 < ord.length ∧ ord.length ≤ 6 by
    rw [ho]
    have h1 := spared_cnt hall
    exact ⟨List.length_pos_of_mem hall.first, by omega⟩)
  unfold GivesFire at HBU
  rw [← ho] at HBU ⊢
  clear hE hS hT hes hp hz hl hall ho
  go_enter Try.func65, Try.ntmps65
  go_wp2_with fail
  obtain ⟨W0, hW0⟩ : ∃ X : World, X = w.alloc (Obj.cells #[.slice D M cd, .slice F M cf, .int .i64 (M : Int), .slice A es.length c, .int .i64 (k : Int)] 64) := ⟨_, rfl⟩
  rw [← hW0]
  have hb0 : Below w.heap.size w W0 := by rw [hW0]; exact (Below.refl _ _).alloc (Nat.le_refl _) _
  have HXD := Lib.hid (show Blk W0.drew w.heap.size 64 #[.slice D M cd, .slice F M cf, .int .i64 (M : Int), .slice A es.length c, .int .i64 (k : Int)] from (by rw [hW0]; exact Blk.new w _ _ : Blk W0 w.heap.size 64 #[.slice D M cd, .slice F M cf, .int .i64 (M : Int), .slice A es.length c, .int .i64 (k : Int)]))
  have hsz : W0.heap.size = w.heap.size + 1 := by rw [hW0]; simp
  have HXL := Lib.hid (show w.heap.size < W0.drew.heap.size by show w.heap.size < W0.heap.size; omega)
  obtain ⟨x0, x1, x2, x3, x4, -⟩ := five_facts HXD.out
  have HP0 := Lib.hid (show W0.drew.cell? ⟨w.heap.size, 0, none⟩ = some (.slice D M cd) ∧ W0.drew.cell? ⟨w.heap.size, 1, none⟩ = some (.slice F M cf) ∧ W0.drew.cell? ⟨w.heap.size, 2, none⟩ = some (.int .i64 (M : Int)) ∧ W0.drew.cell? ⟨w.heap.size, 3, none⟩ = some (.slice A es.length c) ∧ Below w.heap.size w W0.drew from ⟨x0, x1, x2, x3, hb0.drew⟩)
  clear hW0 x0 x1 x2 x3 x4 hsz
  go_region_held3 (fun w' => w'.cell? ⟨w.heap.size, 0, none⟩ = some (.slice D M cd) ∧ w'.cell? ⟨w.heap.size, 1, none⟩ = some (.slice F M cf) ∧ w'.cell? ⟨w.heap.size, 2, none⟩ = some (.int .i64 (M : Int)) ∧ w'.cell? ⟨w.heap.size, 3, none⟩ = some (.slice A es.length c) ∧ Below w.heap.size w w')
    (first
      | with_reducible exact HP0.out
      | with_reducible exact keepQ (by assumption) hb3 (Nat.le_refl _)
      | with_reducible exact keepQ (by assumption) hb4 (Nat.le_refl _))
    (first
      | (go_at_call 109; refine (PA _ HP0.out.2.2.2.2).out.mono ?_; rintro e w3 ⟨Y, cy, rfl, ho3, hb3⟩)
      | (go_at_call 117; refine (PB Y cy w3 ho3.ints).out.mono ?_; rintro e w4 ⟨pb, g, cg, rfl, hbr, hch, hg1, hg2, hb4⟩))
  have hx4 := (HXD.out.below hb3 HXL.out).below hb4 (HXD.out.below hb3 HXL.out).lt
  obtain ⟨-, -, -, -, x4, -⟩ := five_facts hx4
  have hB3 := HP0.out.2.2.2.2.trans (hb3.mono HP0.out.2.2.2.2.size)
  have hB4 := hB3.trans (hb4.mono hB3.size)
  have HFR := Lib.hid (HBU.out pb g cg w4 hbr.lt hbr hch (HE.out.up_ hB4))
  have HB4 := Lib.hid hB4
  clear hb3 hb4 hbr hch hg1 hg2 hx4 hB3 hB4 PA PB HBU HP0 HXD HXL hb0 ho3
  go_wp2_with fail
  refine HFR.out.mono ?_
  rintro e w5 ⟨base, pf, gh, ch, h, rfl, hZ, -, hb5⟩
  have HSP := Lib.hid (spared_any _ base pf gh ch pb M ord h w5 hM HBL.out.2 HBL.out.1 hZ)
  have HB5 := Lib.hid (HB4.out.trans (hb5.mono HB4.out.size))
  clear hb5 hZ HFR x4
  go_wp2_with fail
  refine HSP.out.mono ?_
  rintro e w6 ⟨A6, c6, rfl, -, hb6⟩
  have HB6 := Lib.hid (HB5.out.trans (hb6.mono HB5.out.size))
  clear hb6 HSP
  go_wp2
  go_ret
  exact ⟨ret_boolE HCT.out, HB6.out⟩
end Go.Proofs.Ytdpojcgeblbfeaa
