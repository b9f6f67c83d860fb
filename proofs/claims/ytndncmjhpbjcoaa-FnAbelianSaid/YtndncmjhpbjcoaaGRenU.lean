/- A call in company whose memory is known in part: blocks that it reads, blocks that it owns; of each the first K cells. -/
import Derived.Test.YtndncmjhpbjcoaaGRB
set_option linter.all false
namespace Go.Proofs.Ytndncmjhpbjcoaa
open Go.Conc

noncomputable def cutW (F D : Nat → Prop) (K : Nat → Nat) (W : World) : World := open Classical in
  { W with heap := W.heap.mapIdx fun i o => if D i then (match o with | .cells c t z => .cells (c.extract 0 (K i)) t (if F i then (0, (c.extract 0 (K i)).size) else z) | o => o) else o }
section
variable {F D : Nat → Prop} {K : Nat → Nat} {W W1 : World}
theorem cutW_size : (cutW F D K W).heap.size = W.heap.size := by simp [cutW]
theorem cutW_at {b : Nat} {cs : Array Value} {t : TypeId} (h : D b) (hb : W.heap[b]? = some (.cells cs t (0, 0))) : (cutW F D K W).heap[b]? = some (.cells (cs.extract 0 (K b)) t (open Classical in if F b then (0, (cs.extract 0 (K b)).size) else (0, 0))) := by
  simp [cutW, Array.getElem?_mapIdx, hb, h]
theorem cutW_cell {a : Addr} {v : Value} {cs : Array Value} {t : TypeId} (h : D a.block) (hb : W.heap[a.block]? = some (.cells cs t (0, 0))) (hK : a.off < K a.block) (hs : a.spot = none) (hv : cs[a.off]? = some v) : (cutW F D K W).cell? a = some v := by
  unfold World.cell?
  rw [cutW_at h hb]
  obtain ⟨hi, _⟩ := Array.getElem?_eq_some_iff.1 hv
  simp only [hs, Option.isSome_none, Bool.false_eq_true, if_false]
  rw [Array.getElem?_extract]
  rw [if_pos (by omega)]
  simpa using hv
theorem cutW_frozen {a : Addr} {cs : Array Value} {t : TypeId} (h : D a.block) (hF : ¬ F a.block) (hb : W.heap[a.block]? = some (.cells cs t (0, 0))) : (cutW F D K W).frozen? a = false := by
  unfold World.frozen?
  rw [cutW_at h hb, if_neg hF]
  simp
end
variable [FnsOk]
structure Handed (G : Nat) (S O : Nat → Prop) (F D : Nat → Prop) (K : Nat → Nat) (W : World) : Prop where
  low : ∀ r, D r → G ≤ r
  sub : ∀ r, F r → D r
  read : ∀ r, F r → S r ∨ O r
  own : ∀ r, D r → ¬ F r → O r
  ob : ∀ r, D r → ∃ cs t, W.heap[r]? = some (.cells cs t (0, 0)) ∧ ∀ i v, i < K r → cs[i]? = some v → VR (idR D) v v
section
variable {P : Program} {G : Nat} {F D : Nat → Prop} {K : Nat → Nat} {f : FuncId} {args : Array Value} {S O0 : Nat → Prop} {W : World}
theorem wr_cut (hG : G ≤ W.heap.size) (h : Handed G S O0 F D K W) : WR G F (idR D) (cutW F D K W) W := by
  have hlt : ∀ r, D r → r < W.heap.size := fun r hr => by
    obtain ⟨cs, t, e, -⟩ := h.ob r hr
    exact (Array.getElem?_eq_some_iff.1 e).1
  refine ⟨fun r s s' x y => x.1.symm.trans y.1, fun r r' s x y => x.1.trans y.1.symm, fun r s x => ?_, fun r x => ?_, ?_, fun r s x => ?_⟩
  · obtain ⟨rfl, hr⟩ := x
    rw [cutW_size]
    exact ⟨hlt r hr, hlt r hr, h.low r hr, h.low r hr⟩
  · rw [cutW_size]
    exact hlt r (h.sub r x)
  · rw [cutW_size]
    exact ⟨hG, hG⟩
  · obtain ⟨rfl, hr⟩ := x
    obtain ⟨cs, t, e, hv⟩ := h.ob r hr
    refine .inl ⟨_, cs, t, _, cutW_at hr e, e, ⟨by simp; omega, fun i a b x y => ?_⟩, fun hF => by rw [if_pos hF]; exact ⟨rfl, Nat.le_refl _⟩, fun hF => by rw [if_neg hF]⟩
    rw [Array.getElem?_extract] at x
    split at x
    · rename_i hi
      rw [Nat.zero_add] at x
      rw [x] at y
      cases y
      exact hv i a (by omega) x
    · cases x
theorem co_callX {main : Bool} {Stop : (Nat → Prop) → Goroutine → World → Prop} {R : Value → World → Prop} (hg : FnsGood P) (hf : FnsOk.ok f) (hC : ∀ T : Tp, Calls P f args ((cutW F D K W).rt T 0) fun e w' => ∃ v, e = .returned v ∧ R v w')
    (hargs : AR (idR D) args args) (hG : P.globals.size ≤ W.heap.size) (hD : Handed P.globals.size S O0 F D K W) (c : Frame) (cb : List Frame)
    (hstop : ∀ (v u : Value) (w' W' : World) (ρ : Ren) (O : Nat → Prop), R v w' → VR ρ v u → WR P.globals.size F ρ w' W' → (idR D).le ρ → (∀ s, O0 s → O s) → W.heap.size ≤ W'.heap.size → (∀ b, b < W.heap.size → S b ∨ O0 b → (D b → F b) → W'.heap[b]? = W.heap[b]?) →
      Co P main S Stop O (Go.Conc.G (c.finish u) cb) W') : Co P main S Stop O0 (Go.Conc.G (Frame.enter P f args .normal) (c :: cb)) W := by
  refine co_call (R := R) hg hf (ends_of_calls hC) hargs (wr_cut hG hD) (fun r s x y => ?_) (fun r s x y => ?_) c cb fun v u w' W' ρ O h1 h2 h3 h4 => ?_
  · obtain ⟨rfl, hr⟩ := x
    exact hD.own r hr y
  · obtain ⟨rfl, hr⟩ := x
    exact hD.read r y
  · exact hstop v u w' W' ρ O h1 h2 h3 h4.le h4.old h4.size fun b hb hs hn => h4.kept b hb hs fun ⟨r, x, y⟩ => by
      obtain ⟨rfl, hr⟩ := x
      exact y (hn hr)
theorem WR.first {ρ : Ren} {w W' : World} (h : WR G F ρ w W') {r : Nat} (hr : ρ r r) {cs : Array Value} {t : TypeId} {z : Nat × Nat} (e : w.heap[r]? = some (.cells cs t z)) : ∃ ds, W'.heap[r]? = some (.cells ds t (0, 0)) ∧ PfR ρ cs ds := by
  rcases h.obj r r hr with ⟨cs', ds, t', z', e1, e2, e3, -⟩ | ⟨a, b, l, e1, -⟩
  · rw [e] at e1
    cases e1
    exact ⟨ds, e2, e3⟩
  · rw [e] at e1
    cases e1
end
end Go.Proofs.Ytndncmjhpbjcoaa
