/- IsPrincipal: the specification's side. -/
import Derived.Test.YtcfhkaefjhcglaaEqvS
import Derived.Deep.RegionHeld3
namespace Go.Proofs.Ytcfhkaefjhcglaa
open Go.RowKit

theorem keepB2 {w0 W W' : World} {X : Nat} {a b : Value} (h : W.cell? ⟨X, 0, none⟩ = some a ∧ W.cell? ⟨X, 1, none⟩ = some b ∧ Below w0.heap.size w0 W) (hb : Below W.heap.size W W') :
    W'.cell? ⟨X, 0, none⟩ = some a ∧ W'.cell? ⟨X, 1, none⟩ = some b ∧ Below w0.heap.size w0 W' :=
  ⟨(hb.cell (World.block_lt_of_cell? W _ h.1)).trans h.1, (hb.cell (World.block_lt_of_cell? W _ h.2.1)).trans h.2.1, h.2.2.trans (hb.mono h.2.2.size)⟩
section
variable {P : Program} {ops : Array Oper} {Q : Exit → Act → World → Prop} {md : Region.Mode} {S : World → Prop} {oi : Oper} {fuel : Nat} {listed : Array Bool} {a : Act} {w : World}
/-- an operation that yields v is taken -/
theorem wpAnyH_on (i : Nat) (s : Option Tmp) (v : Value) (hi : ops[i]? = some oi)
    (hs : Region.noSelect ops = true) (hf : Region.free md ops listed i = true) (hr : (Region.ready md ops listed).contains i = true)
    (hQ : ∀ c a w, Q (.panic c) (a.put oi.dst v) w → Q (.panic c) a w) (hd : oi.dst = s) (hS : S w) (hw : Region.wanted oi (yielded ops a.tmps) = true) (hy : ∀ w, S w → (execOp a.eval oi).run P w = .ok (.value v) w)
    (h : wpAnyH P md ops Q S fuel (listed.setIfInBounds i true) (a.put s v) w) : wpAnyH P md ops Q S (fuel + 1) listed a w :=
  wpAnyH_take hi hs hf hr hQ (Or.inl ⟨hw, hy⟩) hS (hd ▸ h)
/-- an operation whose guard says no is passed over -/
theorem wpAnyH_off (i : Nat) (s : Option Tmp) (hi : ops[i]? = some oi)
    (hs : Region.noSelect ops = true) (hf : Region.free md ops listed i = true) (hr : (Region.ready md ops listed).contains i = true)
    (hQ : ∀ c a w, Q (.panic c) (a.put oi.dst undef) w → Q (.panic c) a w) (hd : oi.dst = s) (hS : S w) (hw : Region.wanted oi (yielded ops a.tmps) = false)
    (h : wpAnyH P md ops Q S fuel (listed.setIfInBounds i true) (a.put s undef) w) : wpAnyH P md ops Q S (fuel + 1) listed a w :=
  wpAnyH_take hi hs hf hr hQ (Or.inr ⟨hw, rfl⟩) hS (hd ▸ h)
end
set_option maxRecDepth 100000 in
set_option maxHeartbeats 4000000 in
set_option linter.unusedSimpArgs false in
theorem specPrin (N : Int) (A D : Option Addr) (c cd : Nat) (es : List (Int × Int)) (d : List Int) (w : World) (hn : es.length ≤ 1048576) (hd : d.length ≤ 1048576) (hE : EdgeS w w.heap.size A es) (hS : IntS w w.heap.size D d) :
    Calls Try.prog 47 #[.agg #[.int .i64 N, .slice A es.length c], .slice D d.length cd] w fun e w' => e = .returned (.bool (prinB N es d)) ∧ Below w.heap.size w w' := by
  have HE := Lib.hid hE
  have HS := Lib.hid hS
  clear hE hS
  have G0 := GB.start w N A c es
  rw [prinB]
  cases h1 : divB 60 N es d with
  | false =>
    have DO := fun (W : World) (h : Below (w.alloc (.cells #[.int .i64 N, .slice A es.length c] 25)).heap.size (w.alloc (.cells #[.int .i64 N, .slice A es.length c] 25)) W) => Lib.hid (show Calls Try.prog 82 #[.agg #[.int .i64 N, .slice A es.length c], .slice D d.length cd] W (fun e w' => e = .returned (.bool false) ∧ Below W.heap.size W w') by
      have h9 := specDiv N A D c cd es d W hn hd (HE.out.up_ (G0.next h).old) (HS.out.up_ (G0.next h).old)
      rw [h1] at h9
      exact h9)
    obtain ⟨W0, hW0⟩ : ∃ X : World, X = w.alloc (.cells #[.int .i64 N, .slice A es.length c] 25) := ⟨_, rfl⟩
    rw [← hW0] at G0 DO
    have HW0 := Lib.hid hW0
    have c0 := G0.c0
    have c1 := G0.c1
    have HP0 := Lib.hid (show W0.drew.cell? ⟨w.heap.size, 0, none⟩ = some (.int .i64 N) ∧ W0.drew.cell? ⟨w.heap.size, 1, none⟩ = some (.slice A es.length c) ∧ Below W0.heap.size W0 W0.drew from ⟨c0, c1, (Below.refl _ _).drew⟩)
    have HG := Lib.hid G0
    clear h1 hW0 G0
    go_enter Try.func47, Try.ntmps47
    go_wp2_with fail
    rw [← HW0.out]
    refine wp_region_held_drew (S := fun w' => w'.cell? ⟨w.heap.size, 0, none⟩ = some (.int .i64 N) ∧ w'.cell? ⟨w.heap.size, 1, none⟩ = some (.slice A es.length c) ∧ Below W0.heap.size W0 w') (by kernel_rfl) HP0.out (fun hH => ?_)
    refine wpAnyH_on 0 (some 5) (.agg #[.int .i64 N, .slice A es.length c]) rfl (by kernel_rfl) (by kernel_rfl) (by kernel_rfl) (fun _ _ _ h => h) rfl hH (by rfl) ?_ ?_
    · intro w hSw
      try dsimp only at hSw
      go_simp
    try simp only [Act.put, List.setIfInBounds_toArray, List.set_cons_zero, List.set_cons_succ]
    refine wpAnyH_on 1 (some 6) (.slice D d.length cd) rfl (by kernel_rfl) (by kernel_rfl) (by kernel_rfl) (fun _ _ _ h => h) rfl hH (by rfl) ?_ ?_
    · intro w hSw
      try dsimp only at hSw
      go_simp
    try simp only [Act.put, List.setIfInBounds_toArray, List.set_cons_zero, List.set_cons_succ]
    refine wpAnyH_ready (rs := [2]) (by kernel_rfl) (by simp) ?_
    refine AllReadyH.cons rfl (fun K hK => ?_) AllReadyH.nil
    go_simp
    refine (DO _ (And.right (And.right hH))).out.mono ?_
    rintro e w1 ⟨rfl, hb1⟩
    refine hK.out _ _ (keepB2 hH hb1) (fun hH2 => ?_)
    clear hK K
    try simp only [Act.put, List.setIfInBounds_toArray, List.set_cons_zero, List.set_cons_succ]
    refine wpAnyH_on 3 (some 8) (.bool false) rfl (by kernel_rfl) (by kernel_rfl) (by kernel_rfl) (fun _ _ _ h => h) rfl hH2 (by rfl) ?_ ?_
    · intro w hSw
      try dsimp only at hSw
      go_simp
    try simp only [Act.put, List.setIfInBounds_toArray, List.set_cons_zero, List.set_cons_succ]
    refine wpAnyH_off 4 (some 9) rfl (by kernel_rfl) (by kernel_rfl) (by kernel_rfl) (fun _ _ _ h => h) rfl hH2 (by rfl) ?_
    try simp only [Act.put, List.setIfInBounds_toArray, List.set_cons_zero, List.set_cons_succ]
    refine wpAnyH_off 5 (some 10) rfl (by kernel_rfl) (by kernel_rfl) (by kernel_rfl) (fun _ _ _ h => h) rfl hH2 (by rfl) ?_
    try simp only [Act.put, List.setIfInBounds_toArray, List.set_cons_zero, List.set_cons_succ]
    refine wpAnyH_off 6 (some 11) rfl (by kernel_rfl) (by kernel_rfl) (by kernel_rfl) (fun _ _ _ h => h) rfl hH2 (by rfl) ?_
    try simp only [Act.put, List.setIfInBounds_toArray, List.set_cons_zero, List.set_cons_succ]
    refine wpAnyH_off 7 (some 12) rfl (by kernel_rfl) (by kernel_rfl) (by kernel_rfl) (fun _ _ _ h => h) rfl hH2 (by rfl) ?_
    try simp only [Act.put, List.setIfInBounds_toArray, List.set_cons_zero, List.set_cons_succ]
    refine wpAnyH_off 8 (some 13) rfl (by kernel_rfl) (by kernel_rfl) (by kernel_rfl) (fun _ _ _ h => h) rfl hH2 (by rfl) ?_
    try simp only [Act.put, List.setIfInBounds_toArray, List.set_cons_zero, List.set_cons_succ]
    refine wpAnyH_off 9 (some 14) rfl (by kernel_rfl) (by kernel_rfl) (by kernel_rfl) (fun _ _ _ h => h) rfl hH2 (by rfl) ?_
    try simp only [Act.put, List.setIfInBounds_toArray, List.set_cons_zero, List.set_cons_succ]
    refine wpAnyH_on 10 (some 15) (.bool false) rfl (by kernel_rfl) (by kernel_rfl) (by kernel_rfl) (fun _ _ _ h => h) rfl hH2 (by rfl) ?_ ?_
    · intro w hSw
      try dsimp only at hSw
      go_simp
    try simp only [Act.put, List.setIfInBounds_toArray, List.set_cons_zero, List.set_cons_succ]
    refine wpAnyH_on 11 (some 4) (.bool false) rfl (by kernel_rfl) (by kernel_rfl) (by kernel_rfl) (fun _ _ _ h => h) rfl hH2 (by rfl) ?_ ?_
    · intro w hSw
      try dsimp only at hSw
      go_simp
    try simp only [Act.put, List.setIfInBounds_toArray, List.set_cons_zero, List.set_cons_succ]
    refine wpAnyH_done (by kernel_rfl) ?_ _
    have hbz : Below W0.heap.size W0 w1 := And.right (And.right hH2)
    go_wp2
    go_ret
    exact ⟨rfl, (HG.out.next hbz).old⟩
  | true =>
    obtain ⟨M, rfl, hM0, hM6, -⟩ := div_limsB h1
    have hmk := make_ints M (by omega)
    rw [Int.toNat_natCast]
    have DO := fun (W : World) (h : Below (w.alloc (.cells #[.int .i64 (M : Int), .slice A es.length c] 25)).heap.size (w.alloc (.cells #[.int .i64 (M : Int), .slice A es.length c] 25)) W) => Lib.hid (show Calls Try.prog 82 #[.agg #[.int .i64 (M : Int), .slice A es.length c], .slice D d.length cd] W (fun e w' => e = .returned (.bool true) ∧ Below W.heap.size W w') by
      have h9 := specDiv (M : Int) A D c cd es d W hn hd (HE.out.up_ (G0.next h).old) (HS.out.up_ (G0.next h).old)
      rw [h1] at h9
      exact h9)
    obtain ⟨b, hb⟩ : ∃ x, x = eqvB (M : Int) es d (List.replicate M 0) := ⟨_, rfl⟩
    rw [← hb]
    have EO := fun (W : World) (h : Below (w.alloc (.cells #[.int .i64 (M : Int), .slice A es.length c] 25)).heap.size (w.alloc (.cells #[.int .i64 (M : Int), .slice A es.length c] 25)) W) => Lib.hid (show Calls Try.prog 38 #[.agg #[.int .i64 (M : Int), .slice A es.length c], .slice D d.length cd, .slice (some ⟨W.heap.size, 0, none⟩) M M] (W.alloc (.cells (intCells (List.replicate M 0)).toArray 3)) (fun e w' => e = .returned (.bool b) ∧ Below (W.alloc (.cells (intCells (List.replicate M 0)).toArray 3)).heap.size (W.alloc (.cells (intCells (List.replicate M 0)).toArray 3)) w') by
      have hz : Below W.heap.size W (W.alloc (.cells (intCells (List.replicate M 0)).toArray 3)) := (Below.refl _ _).alloc (Nat.le_refl _) _
      have ho := ((G0.next h).next hz).old
      have h9 := specEqv (M : Int) A D (some ⟨W.heap.size, 0, none⟩) c cd M es d (List.replicate M 0) (W.alloc (.cells (intCells (List.replicate M 0)).toArray 3)) hn hd (by simp; omega) (HE.out.up_ ho) (HS.out.up_ ho) (IntS.of_blk (Blk.new W _ _) (Blk.new W _ _).lt)
      rw [← hb, List.length_replicate] at h9
      exact h9)
    obtain ⟨W0, hW0⟩ : ∃ X : World, X = w.alloc (.cells #[.int .i64 (M : Int), .slice A es.length c] 25) := ⟨_, rfl⟩
    rw [← hW0] at G0 DO EO
    have HW0 := Lib.hid hW0
    have c0 := G0.c0
    have c1 := G0.c1
    have HP0 := Lib.hid (show W0.drew.cell? ⟨w.heap.size, 0, none⟩ = some (.int .i64 (M : Int)) ∧ W0.drew.cell? ⟨w.heap.size, 1, none⟩ = some (.slice A es.length c) ∧ Below W0.heap.size W0 W0.drew from ⟨c0, c1, (Below.refl _ _).drew⟩)
    have HG := Lib.hid G0
    clear h1 hW0 G0 hb
    go_enter Try.func47, Try.ntmps47
    go_wp2_with fail
    rw [← HW0.out]
    go_region_held3 (fun w' => w'.cell? ⟨w.heap.size, 0, none⟩ = some (.int .i64 (M : Int)) ∧ w'.cell? ⟨w.heap.size, 1, none⟩ = some (.slice A es.length c) ∧ Below W0.heap.size W0 w')
      (first
        | with_reducible exact HP0.out
        | with_reducible exact keepB2 (by assumption) hb1
        | with_reducible exact keepB2 (by assumption) hb2
        | with_reducible exact keepB2 (by assumption) ((Below.refl _ _).alloc (Nat.le_refl _) _))
      (first
        | (go_at_call 82; refine (DO _ (And.right (And.right (by assumption)))).out.mono ?_; rintro e w1 ⟨rfl, hb1⟩)
        | (go_at_call 38; refine (EO w1 ((Below.refl _ _).drew.trans hb1)).out.mono ?_; rintro e w2 ⟨rfl, hb2⟩))
    have hbz : Below W0.heap.size W0 w2 := And.right (And.right (by assumption))
    go_wp2
    go_ret
    exact ⟨rfl, (HG.out.next hbz).old⟩
end Go.Proofs.Ytcfhkaefjhcglaa
