/- ScriptBetween: the program's side. -/
import Derived.Test.YtpdnfijeahdahaaBL
import Derived.Test.YtpdnfijeahdahaaPrinS
import Derived.Test.YtpdnfijeahdahaaBetS
import Derived.Test.YtpdnfijeahdahaaBJ
namespace Go.Proofs.Ytpdnfijeahdahaa
open Go.RowKit

theorem keepR4 {w0 W W' : World} {p1 p2 p3 p4 : Addr} {a b c d : Value} (h : W.cell? p1 = some a ∧ W.cell? p2 = some b ∧ W.cell? p3 = some c ∧ W.cell? p4 = some d ∧ Below w0.heap.size w0 W) (hb : Below W.heap.size W W') :
    W'.cell? p1 = some a ∧ W'.cell? p2 = some b ∧ W'.cell? p3 = some c ∧ W'.cell? p4 = some d ∧ Below w0.heap.size w0 W' :=
  ⟨(hb.cell (World.block_lt_of_cell? W _ h.1)).trans h.1, (hb.cell (World.block_lt_of_cell? W _ h.2.1)).trans h.2.1, (hb.cell (World.block_lt_of_cell? W _ h.2.2.1)).trans h.2.2.1, (hb.cell (World.block_lt_of_cell? W _ h.2.2.2.1)).trans h.2.2.2.1, h.2.2.2.2.trans (hb.mono h.2.2.2.2.size)⟩
set_option maxRecDepth 100000 in
set_option maxHeartbeats 4000000 in
theorem implBet (N : Int) (A D F : Option Addr) (c cd cf : Nat) (es : List (Int × Int)) (a b : List Int) (w : World) (hn : es.length ≤ 1048576) (ha : a.length ≤ 1048576) (hb : b.length ≤ 1048576) (hE : EdgeS w w.heap.size A es) (hS : IntS w w.heap.size D a) (hT : IntS w w.heap.size F b) :
    Calls Try.prog 44 #[.agg #[.int .i64 N, .slice A es.length c], .slice D a.length cd, .slice F b.length cf] w (GivesIntsOk w (betB N es a b) (eqvB N es a b)) := by
  have HE := Lib.hid hE
  have HS := Lib.hid hS
  have HT := Lib.hid hT
  clear hE hS hT
  have G0 := GB.start w N A c es
  have HD := fun w h1 h2 => Lib.hid (implDiv N A D c cd es a w hn ha h1 h2)
  have HF := fun w h1 h2 => Lib.hid (implDiv N A F c cf es b w hn hb h1 h2)
  cases h1 : divB 60 N es a with
  | false =>
    rw [h1] at HD
    rw [bet_f (eqv_no1 h1), eqv_no1 h1]
    clear h1 HF
    go_enter Try.func44, Try.ntmps44
    go_wp2_with fail
    refine (HD _ (HE.out.up_ G0.old) (HS.out.up_ G0.old)).out.mono ?_
    rintro e w1 ⟨rfl, hb1⟩
    have G1 := Lib.hid (G0.next hb1)
    clear G0 hb1
    go_wp2
    go_ret2
    exact ⟨none, 0, rfl, OwnI.nil _ _ _, G1.out.old⟩
  | true =>
    rw [h1] at HD
    cases h2 : divB 60 N es b with
    | false =>
      rw [h2] at HF
      rw [bet_f (eqv_no2 h2), eqv_no2 h2]
      clear h1 h2
      go_enter Try.func44, Try.ntmps44
      go_wp2_with fail
      refine (HD _ (HE.out.up_ G0.old) (HS.out.up_ G0.old)).out.mono ?_
      rintro e w1 ⟨rfl, hb1⟩
      have G1 := Lib.hid (G0.next hb1)
      have c0 := G1.out.c0
      have c1 := G1.out.c1
      clear G0 hb1
      go_wp2_with fail
      refine (HF _ (HE.out.up_ G1.out.old) (HT.out.up_ G1.out.old)).out.mono ?_
      rintro e w2 ⟨rfl, hb2⟩
      have G2 := Lib.hid (G1.out.next hb2)
      clear hb2 c0 c1
      go_wp2
      go_ret2
      exact ⟨none, 0, rfl, OwnI.nil _ _ _, G2.out.old⟩
    | true =>
      rw [h2] at HF
      obtain ⟨M, rfl, hM0, hM6, -⟩ := div_limsB h1
      have hl1 := Lib.hid (red_len h1)
      have hl2 := Lib.hid (red_len h2)
      have HQV := Lib.hid (eqv_red h1 h2 (red_ex A D M es a w h1 HE.out HS.out) (red_ex A F M es b w h2 HE.out HT.out))
      have HP := fun (W : World) (h : Below w.heap.size w W) => Lib.hid (implRd2 A D c cd M es a W h1 (HE.out.up_ h) (HS.out.up_ h))
      have HQ := fun (W : World) (h : Below w.heap.size w W) => Lib.hid (implRd2 A F c cf M es b W h2 (HE.out.up_ h) (HT.out.up_ h))
      have HBT := Lib.hid (fun (h : eqvB (M : Int) es a b = true) => bet_t h)
      have HBF := Lib.hid (fun (h : eqvB (M : Int) es a b = false) => bet_f h)
      obtain ⟨xa, hxa⟩ : ∃ x, x = redR (M : Int) es a 0 := ⟨_, rfl⟩
      obtain ⟨xb, hxb⟩ : ∃ x, x = redR (M : Int) es b 0 := ⟨_, rfl⟩
      obtain ⟨sa, hsa⟩ : ∃ x, x = scrR (M : Int) es a 0 := ⟨_, rfl⟩
      obtain ⟨sb, hsb⟩ : ∃ x, x = scrR (M : Int) es b 0 := ⟨_, rfl⟩
      rw [← hxa, ← hsa] at HP hl1
      rw [← hxb, ← hsb] at HQ hl2
      rw [← hxa, ← hxb] at HQV
      rw [← hsa, ← hsb] at HBT
      obtain ⟨ok, hok⟩ : ∃ x, x = eqvB (M : Int) es a b := ⟨_, rfl⟩
      obtain ⟨zs, hzs⟩ : ∃ x, x = betB (M : Int) es a b := ⟨_, rfl⟩
      rw [← hok] at HQV
      rw [← hok, ← hzs] at HBT HBF
      rw [← hok, ← hzs]
      have HM0 := Lib.hid hM0
      have HM6 := Lib.hid hM6
      have hM1 : (0 : Int) ≤ (M : Int) := Int.natCast_nonneg _
      have hmk := make_ints M (by omega)
      clear h1 h2 hxa hxb hsa hsb hok hzs hM0 hM6
      go_enter Try.func44, Try.ntmps44
      go_wp2_with fail
      refine (HD _ (HE.out.up_ G0.old) (HS.out.up_ G0.old)).out.mono ?_
      rintro e w1 ⟨rfl, hb1⟩
      have G1 := Lib.hid (G0.next hb1)
      have c0 := G1.out.c0
      have c1 := G1.out.c1
      clear G0 hb1
      go_wp2_with fail
      refine (HF _ (HE.out.up_ G1.out.old) (HT.out.up_ G1.out.old)).out.mono ?_
      rintro e w2 ⟨rfl, hb2⟩
      have G2 := Lib.hid (G1.out.next hb2)
      clear hb2 c0 c1 HD HF
      have c0 := G2.out.c0
      have c1 := G2.out.c1
      have HP0 := Lib.hid (show w2.drew.cell? ⟨w.heap.size, 0, none⟩ = some (.int .i64 (M : Int)) ∧ w2.drew.cell? ⟨w.heap.size, 1, none⟩ = some (.slice A es.length c) ∧ Below w2.heap.size w2 w2.drew from ⟨c0, c1, (Below.refl _ _).drew⟩)
      have PA := fun (W : World) (h : Below w2.heap.size w2 W) => HP W (G2.out.next h).old
      have PB := fun (W : World) (h : Below w2.heap.size w2 W) => HQ W (G2.out.next h).old
      clear HP HQ
      go_wp2_with fail
      go_region_held3 (fun w' => w'.cell? ⟨w.heap.size, 0, none⟩ = some (.int .i64 (M : Int)) ∧ w'.cell? ⟨w.heap.size, 1, none⟩ = some (.slice A es.length c) ∧ Below w2.heap.size w2 w')
        (first
          | with_reducible exact HP0.out
          | with_reducible exact keepB2 (by assumption) hb3)
        (first
          | (go_at_call 41; refine (PA _ (And.right (And.right (by assumption)))).out.mono ?_; rintro e w3 ⟨pra, pba, ga, cga, gsa, rfl, hra, hb3⟩; clear PA)
          | (go_at_call 41; refine (PB _ (And.right (And.right (by assumption)))).out.mono ?_; rintro e w3 ⟨prb, pbb, gb, cgb, gsb, rfl, hrb, hb3⟩; clear PB))
      all_goals
        have hb23 : Below w2.heap.size w2 w3 := And.right (And.right (by assumption))
        have HAB := Lib.hid (show (∃ B, RedP w3 B pra pba ga cga gsa M xa sa) ∧ (∃ B, RedP w3 B prb pbb gb cgb gsb M xb sb) from by
          first
            | exact ⟨⟨_, hra.next hb3⟩, ⟨_, hrb⟩⟩
            | exact ⟨⟨_, hra⟩, ⟨_, hrb.next hb3⟩⟩)
        have G3 := Lib.hid (G2.out.next hb23)
        clear hra hrb hb3 hb23 c0 c1
        obtain ⟨⟨Ba, hA⟩, ⟨Bb, hB⟩⟩ := HAB.out
        have HA := Lib.hid hA
        have HB := Lib.hid hB
        have p1 := hA.c0
        have p2 := hA.b1
        have p3 := hB.c0
        have p4 := hB.b1
        have HPS := Lib.hid (show w3.drew.cell? ⟨pra, 0, none⟩ = some (.pointer (some ⟨pba, 0, none⟩)) ∧ w3.drew.cell? ⟨pba, 1, none⟩ = some (.slice (some ⟨ga, 0, none⟩) M cga) ∧ w3.drew.cell? ⟨prb, 0, none⟩ = some (.pointer (some ⟨pbb, 0, none⟩)) ∧ w3.drew.cell? ⟨pbb, 1, none⟩ = some (.slice (some ⟨gb, 0, none⟩) M cgb) ∧ Below w3.heap.size w3 w3.drew from ⟨p1, p2, p3, p4, (Below.refl _ _).drew⟩)
        have HZ := fun (W : World) (h : Below w3.heap.size w3 W) => Lib.hid (show Calls Try.prog 66 #[.slice (some ⟨ga, 0, none⟩) M cga, .slice (some ⟨gb, 0, none⟩) M cgb] W (fun e w' => e = .returned (.bool (decide (xa = xb))) ∧ Below W.heap.size W w') by
          have h9 := implSameD (some ⟨ga, 0, none⟩) (some ⟨gb, 0, none⟩) cga cgb xa xb W (by rw [hl1.out.1]; have := HM6.out; omega) (by rw [hl2.out.1]; have := HM6.out; omega) (HA.out.next h).xs.ints (HB.out.next h).xs.ints
          rw [hl1.out.1, hl2.out.1] at h9
          exact h9)
        clear hA hB
        have HOK := HQV.out
        by_cases hxy : xa = xb
        · as_aux_lemma =>
            rw [decide_eq_true hxy] at HZ HOK
            have hz := HBT.out HOK
            subst HOK
            subst hz
            clear hxy
            have HLS := Lib.hid (show (subB sa sb).length = M by rw [subB_len, hl1.out.2])
            have HRS := fun (g : Nat) (W : World) (h : IntS W W.heap.size (some ⟨g, 0, none⟩) (subB sa sb)) => Lib.hid (show Calls Try.prog 73 #[.slice (some ⟨g, 0, none⟩) M M] W (GivesInts W (liftB (subB sa sb))) by
              have h9 := raised_any (some ⟨g, 0, none⟩) M (subB sa sb) W (by rw [HLS.out]; exact HM0.out) (by rw [HLS.out]; have := HM6.out; omega) h
              rw [HLS.out] at h9
              exact h9)
            go_wp2_with fail
            go_region_held3 (fun w' => w'.cell? ⟨pra, 0, none⟩ = some (.pointer (some ⟨pba, 0, none⟩)) ∧ w'.cell? ⟨pba, 1, none⟩ = some (.slice (some ⟨ga, 0, none⟩) M cga) ∧ w'.cell? ⟨prb, 0, none⟩ = some (.pointer (some ⟨pbb, 0, none⟩)) ∧ w'.cell? ⟨pbb, 1, none⟩ = some (.slice (some ⟨gb, 0, none⟩) M cgb) ∧ Below w3.heap.size w3 w')
              (first
                | with_reducible exact HPS.out
                | with_reducible exact keepR4 (by assumption) hb4)
              (first
                | (go_at_call 66; refine (HZ _ (And.right (And.right (And.right (And.right (by assumption)))))).out.mono ?_; rintro e w4 ⟨rfl, hb4⟩))
            have hb34 : Below w3.heap.size w3 w4 := And.right (And.right (And.right (And.right (by assumption))))
            have G4 := Lib.hid (G3.out.next hb34)
            have HA4 := Lib.hid (HA.out.next hb34)
            have HB4 := Lib.hid (HB.out.next hb34)
            have c0 := G4.out.c0
            clear hb4 hb34 HA HB G3 HPS HZ p1 p2 p3 p4
            go_wp2_with fail
            go_loopw [49] (fun i wr => ∃ k : Nat, k ≤ M ∧ i = .int .i64 k ∧ Blk wr w4.heap.size 3 (intCells (partI (subB sa sb) k)).toArray ∧ Below w4.heap.size w4 wr) (fun i _ => M - (intOf i).toNat)
            case atStart =>
              refine ⟨0, Nat.zero_le _, rfl, ?_, (Below.refl _ _).alloc (Nat.le_refl _) _⟩
              rw [partI_len0, HLS.out]
              exact Blk.new w4 _ _
            case round =>
              obtain ⟨k, hk, rfl, hblk, hb⟩ := hrel
              have HK := Lib.hid hblk
              clear hblk hmk c0
              by_cases hlt : k < M
              · have hA5 := HA4.out.next hb
                have hB5 := HB4.out.next hb
                obtain ⟨b1, o1, x, hq1, hbb1, he, hc0⟩ := hA5.ss.ints.at_ (k := k) (by rw [hl1.out.2]; exact hlt)
                obtain ⟨rfl, rfl⟩ : gsa = b1 ∧ 0 = o1 := by simpa using hq1
                obtain ⟨b2, o2, y, hq2, hbb2, hf, hd0⟩ := hB5.ss.ints.at_ (k := k) (by rw [hl2.out.2]; exact hlt)
                obtain ⟨rfl, rfl⟩ : gsb = b2 ∧ 0 = o2 := by simpa using hq2
                rw [Nat.zero_add] at hc0 hd0
                have p1 := hA5.c2
                have p3 := hB5.c2
                have hi0 : (0 : Int) ≤ (k : Int) := Int.natCast_nonneg _
                have hi1 : (k : Int) < (M : Int) := by omega
                have hi2 : (M : Int) ≤ 6 := by have := HM6.out; omega
                have HX := Lib.hid (subB_at he hf)
                clear he hf hA5 hB5 hq1 hq2
                have hf0 := HK.out.frozen k
                have hcl0 : wr.cell? ⟨w4.heap.size, k, none⟩ = some (.int .i64 0) := by rw [HK.out.cell]; simp [intCells, partI_at (subB sa sb) k (by rw [HLS.out]; exact hlt)]
                go_wp2
                go_region
                go_wp2
                exact ⟨⟨k + 1, by omega, by go_num, (blk_partI HK.out HX.out).drew, (hb.setCell (Nat.le_refl _) _).drew⟩, by simp [intOf]; omega⟩
              · have HK2 := HK.out
                rw [show k = (subB sa sb).length by rw [HLS.out]; omega, partI_all] at HK2
                have HK3 := Lib.hid (IntS.of_blk HK2 HK2.lt)
                have G5 := Lib.hid (G4.out.next hb)
                clear HK2 HK
                go_wp2_with fail
                refine (HRS _ _ HK3.out).out.mono ?_
                rintro e w6 ⟨A6, c6, rfl, ho, hb6⟩
                have HR := Lib.hid (ho.mono G5.out.old.size)
                have G6 := Lib.hid (G5.out.next hb6)
                clear ho hb6
                go_wp2
                go_ret2
                exact ⟨A6, c6, rfl, HR.out, G6.out.old⟩
        · as_aux_lemma =>
            rw [decide_eq_false hxy] at HZ HOK
            have hz := HBF.out HOK
            subst HOK
            subst hz
            clear hxy
            go_wp2_with fail
            go_region_held3 (fun w' => w'.cell? ⟨pra, 0, none⟩ = some (.pointer (some ⟨pba, 0, none⟩)) ∧ w'.cell? ⟨pba, 1, none⟩ = some (.slice (some ⟨ga, 0, none⟩) M cga) ∧ w'.cell? ⟨prb, 0, none⟩ = some (.pointer (some ⟨pbb, 0, none⟩)) ∧ w'.cell? ⟨pbb, 1, none⟩ = some (.slice (some ⟨gb, 0, none⟩) M cgb) ∧ Below w3.heap.size w3 w')
              (first
                | with_reducible exact HPS.out
                | with_reducible exact keepR4 (by assumption) hb4)
              (first
                | (go_at_call 66; refine (HZ _ (And.right (And.right (And.right (And.right (by assumption)))))).out.mono ?_; rintro e w4 ⟨rfl, hb4⟩))
            have hb34 : Below w3.heap.size w3 w4 := And.right (And.right (And.right (And.right (by assumption))))
            have G4 := Lib.hid (G3.out.next hb34)
            clear hb4 hb34
            go_wp2
            go_ret2
            exact ⟨none, 0, rfl, OwnI.nil _ _ _, G4.out.old⟩
end Go.Proofs.Ytpdnfijeahdahaa
