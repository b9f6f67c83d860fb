/- One text out of several: PhG PhT PipT PipS PipO PipC PipE PipF PipG PipH PipI. -/
import Derived.Test.YtndncmjhpbjcoaaGRA
import Derived.Conc.CrowdTrace
import Derived.Conc.Beside
import Derived.Conc.TokenTrace
import Derived.Conc.CrowdComm
import Derived.Conc.QuitsD
import Derived.Conc.Token
import Derived.Test.YtndncmjhpbjcoaaGCB
set_option linter.all false
/- Many that each come to an end come to an end together; the measure of a goroutine with memory of its own. -/
namespace Go.Proofs.Ytndncmjhpbjcoaa

inductive OneLess {α : Type} (r : α → α → Prop) : List α → List α → Prop
  | head {x y : α} {l : List α} (h : r y x) : OneLess r (y :: l) (x :: l)
  | tail {x : α} {l l' : List α} (h : OneLess r l' l) : OneLess r (x :: l') (x :: l)
theorem OneLess.set {α : Type} {r : α → α → Prop} : ∀ {l : List α} {i : Nat} {x y : α}, l[i]? = some x → r y x → OneLess r (l.set i y) l
  | [], i, x, y, h, _ => by simp at h
  | z :: l, 0, x, y, h, hr => by
    simp at h
    subst h
    exact .head hr
  | z :: l, i + 1, x, y, h, hr => by
    simp at h
    exact .tail (OneLess.set h hr)
structure CoS where
  O : Nat → Prop
  g : Goroutine
  W : World
section
variable (P : Program) (main : Bool) (S : Nat → Prop) (Stop : (Nat → Prop) → Goroutine → World → Prop)
def AtStop (x : CoS) : Prop := ∀ W1, Keep S x.O x.W W1 → Stop x.O x.g W1
def NxC (y x : CoS) : Prop := ¬ AtStop S Stop x ∧ ∃ W1 es, Keep S x.O x.W W1 ∧ stepG P main x.g W1 = .go y.g y.W es ∧ y.O = grow x.O W1 y.W
variable {P main S Stop}
theorem Co.acc {O : Nat → Prop} {g : Goroutine} {W : World} (h : Co P main S Stop O g W) : Acc (NxC P main S Stop) ⟨O, g, W⟩ := by
  induction h with
  | stop h => exact Acc.intro _ fun y hy => absurd (show AtStop S Stop ⟨_, _, _⟩ from h) hy.1
  | step hr hp h ih =>
    refine Acc.intro _ fun y hy => ?_
    obtain ⟨-, W1, es, h1, h2, h3⟩ := hy
    obtain ⟨O', g', W'⟩ := y
    simp only at h2 h3
    subst h3
    exact ih W1 h1 g' W' es h2
theorem Co.now {O : Nat → Prop} {g : Goroutine} {W W1 : World} (h : Co P main S Stop O g W) (k : Keep S O W W1) : Stop O g W1 ∨ (g.status = .running ∧ ∃ g' W2 es, stepG P main g W1 = .go g' W2 es ∧ OwnStep S O W1 W2 es ∧ Co P main S Stop (grow O W1 W2) g' W2 ∧ (¬ AtStop S Stop ⟨O, g, W⟩ → NxC P main S Stop ⟨grow O W1 W2, g', W2⟩ ⟨O, g, W⟩)) := by
  cases h with
  | stop h => exact .inl (h W1 k)
  | step hr hp h =>
    obtain ⟨g', W2, es, h1, h2⟩ := hp W1 k
    exact .inr ⟨hr, g', W2, es, h1, h2, h W1 k g' W2 es h1, fun hn => ⟨hn, W1, es, k, h1, rfl⟩⟩
end
end Go.Proofs.Ytndncmjhpbjcoaa

/- The trace of a phase: what goroutine 0 knows ahead of it and behind it; who may touch what while workers with memory of their own run. -/
namespace Go.Proofs.Ytndncmjhpbjcoaa
open Go.Conc Go.ConcN

section
variable {Shun Sh : Loc → Prop} {B B' : Nat} {t u : Trace} {Own Own' Rd Rd' : Nat → Loc → Prop} {J : Nat}
theorem touch_low {x : MemAct} (h : x.low B) {a : Touch} (ha : x.touch? = some a) : a.loc.low B := by
  cases x with
  | access e => simp only [MemAct.touch?, Option.some.injEq] at ha; subst ha; exact h
  | mark m => cases m <;> simp only [MemAct.touch?, Option.some.injEq, reduceCtorEq] at ha <;> (subst ha; exact h)
  | _ => simp [MemAct.touch?] at ha
end
end Go.Proofs.Ytndncmjhpbjcoaa

/- The trace of a pipe's phase: goroutine 0 and its child k work side by side, each on memory of its own, both may read what nobody writes; the others touch nothing. -/
namespace Go.Proofs.Ytndncmjhpbjcoaa
open Go Go.Conc Go.ConcN

structure PT (k : Nat) (O Rd : Loc → Prop) (B : Nat) (t : Trace) : Prop where
  clean : ∀ said, ¬ Race said t
  zero : ∀ i a z, touchAt t i = some a → a.loc.isMemory = true → t[i]? = some z → z.g ≠ k → Knows t 0 i
  own : ∀ l, O l → Perm t k l
  rd : ∀ l, Rd l → PermW t k l
  child : ∀ i a z, touchAt t i = some a → a.loc.isMemory = true → t[i]? = some z → z.g = k → Knows t 0 i ∨ O a.loc ∨ (Rd a.loc ∧ a.write = false)
  hears : Deaf t 0 = 0
  hearsK : Deaf t k = 0
  seen : ∀ op ∈ t, op.act.low B
section
variable {k : Nat} {O O' Rd : Loc → Prop} {B B' : Nat} {t u : Trace}
theorem PT.mono (h : PT k O Rd B t) (hB : B ≤ B') : PT k O Rd B' t := ⟨h.clean, h.zero, h.own, h.rd, h.child, h.hears, h.hearsK, fun op hop => MemAct.low_mono hB (h.seen op hop)⟩
theorem PT.grow (h : PT k O Rd B t) (h1 : ∀ l, O l → O' l) (h2 : ∀ l, O' l → O l ∨ ∀ i a, touchAt t i = some a → a.loc ≠ l) : PT k O' Rd B t :=
  ⟨h.clean, h.zero, fun l hl => (h2 l hl).elim (h.own l) fun x i a ha e => absurd e (x i a ha), h.rd, fun i a z ha hm hz hg => (h.child i a z ha hm hz hg).imp id (Or.imp (h1 _) id), h.hears, h.hearsK, h.seen⟩
theorem PT.zero_app (h : PT k O Rd B t) (hu : ∀ op ∈ u, op.g ≠ k → ∀ b, op.act.touch? = some b → op.g = 0) : ∀ i a z, touchAt (t ++ u) i = some a → a.loc.isMemory = true → (t ++ u)[i]? = some z → z.g ≠ k → Knows (t ++ u) 0 i := by
  intro i a z ha hm hz hg
  obtain ⟨x, hx, hxa⟩ := touch_of ha
  rw [hz] at hx
  obtain rfl := Option.some.inj hx
  rcases getElem?_append_cases hz with ⟨_, hz'⟩ | ⟨_, hzu⟩
  · exact (h.zero i a z (by rw [touchAt_of hz']; exact hxa) hm hz' hg).app u
  · have := knows_own hz
    rw [hu z hzu hg a hxa] at this
    exact this
theorem PT.app0 (h : PT k O Rd B t) (hk : k ≠ 0) (hu : ∀ op ∈ u, op.g = 0) (ho : ∀ op ∈ u, ∀ b, op.act.touch? = some b → ¬ O b.loc ∧ (Rd b.loc → b.write = false)) (hd : Deaf (t ++ u) 0 = Deaf t 0) (hl : ∀ op ∈ u, op.act.low B) : PT k O Rd B (t ++ u) := by
  refine ⟨fun said => noRace_append (h.clean said) hu fun i a ha op hop b hb hc => ?_, h.zero_app fun op hop _ b _ => hu op hop, fun l hl => (h.own l hl).app fun op hop b hb e => absurd (e ▸ hl) (ho op hop b hb).1, fun l hl => (h.rd l hl).app fun op hop b hb e hw => ?_, fun i a z ha hm hz hg => ?_,
    hd.trans h.hears, (Deaf_other t (fun e => hk e.symm) u hu).trans h.hearsK, seen_app h.seen hl⟩
  · obtain ⟨z, hz, hza⟩ := touch_of ha
    by_cases hg : z.g = k
    · rcases h.child i a z ha hc.2.1 hz hg with x | x | ⟨x, y⟩
      · exact x
      · exact absurd (hc.1 ▸ x) (ho op hop b hb).1
      · rcases hc.2.2.1 with q | q
        · rw [y] at q; cases q
        · rw [(ho op hop b hb).2 (hc.1 ▸ x)] at q; cases q
    · exact h.zero i a z ha hc.2.1 hz hg
  · rw [(ho op hop b hb).2 (e ▸ hl)] at hw; cases hw
  · obtain ⟨x, hx, hxa⟩ := touch_of ha
    rw [hz] at hx
    obtain rfl := Option.some.inj hx
    rcases getElem?_append_cases hz with ⟨_, hz'⟩ | ⟨_, hzu⟩
    · exact (h.child i a z (by rw [touchAt_of hz']; exact hxa) hm hz' hg).imp (Knows.app u) id
    · exact absurd (hg.symm.trans (hu z hzu)) hk
theorem PT.appK (h : PT k O Rd B t) (hk : k ≠ 0) (hu : ∀ op ∈ u, op.g = k) (ho : ∀ op ∈ u, ∀ b, op.act.touch? = some b → O b.loc ∨ (Rd b.loc ∧ b.write = false)) (hd : Deaf (t ++ u) k = Deaf t k) (hl : ∀ op ∈ u, op.act.low B) : PT k O Rd B (t ++ u) := by
  refine ⟨fun said => noRace_append (h.clean said) hu fun i a ha op hop b hb hc => ?_, h.zero_app fun op hop x b _ => absurd (hu op hop) x, fun l hl => (h.own l hl).app fun op hop b hb e => hu op hop, fun l hl => (h.rd l hl).app fun op hop b hb e hw => hu op hop, fun i a z ha hm hz hg => ?_,
    (Deaf_other t (fun e => hk e) u hu).trans h.hears, hd.trans h.hearsK, seen_app h.seen hl⟩
  · rcases ho op hop b hb with x | ⟨x, y⟩
    · exact h.own _ x i a ha hc.1
    · rcases hc.2.2.1 with q | q
      · exact h.rd _ x i a ha hc.1 q
      · rw [y] at q; cases q
  · obtain ⟨x, hx, hxa⟩ := touch_of ha
    rw [hz] at hx
    obtain rfl := Option.some.inj hx
    rcases getElem?_append_cases hz with ⟨_, hz'⟩ | ⟨_, hzu⟩
    · exact (h.child i a z (by rw [touchAt_of hz']; exact hxa) hm hz' hg).imp (Knows.app u) id
    · exact .inr (ho z hzu a hxa)
theorem PT.mute (h : PT k O Rd B t) (hn : ∀ op ∈ u, op.act.touch? = none) (hq : ∀ g, g = 0 ∨ g = k → Deaf (t ++ u) g = Deaf t g) (hl : ∀ op ∈ u, op.act.low B) : PT k O Rd B (t ++ u) := by
  refine ⟨fun said => noRace_appendMute (h.clean said) hn, h.zero_app fun op hop _ b hb => (by rw [hn op hop] at hb; cases hb), fun l hl => (h.own l hl).app fun op hop b hb e => (by rw [hn op hop] at hb; cases hb), fun l hl => (h.rd l hl).app fun op hop b hb e hw => (by rw [hn op hop] at hb; cases hb), fun i a z ha hm hz hg => ?_,
    (hq 0 (.inl rfl)).trans h.hears, (hq k (.inr rfl)).trans h.hearsK, seen_app h.seen hl⟩
  obtain ⟨x, hx, hxa⟩ := touch_of ha
  rw [hz] at hx
  obtain rfl := Option.some.inj hx
  rcases getElem?_append_cases hz with ⟨_, hz'⟩ | ⟨_, hzu⟩
  · exact (h.child i a z (by rw [touchAt_of hz']; exact hxa) hm hz' hg).imp (Knows.app u) id
  · rw [hn z hzu] at hxa; cases hxa
theorem PT.fork (h : Past (fun _ => False) B t) (hdk : Deaf t k = 0) {x y : MemOp} (hx : x.g = 0 ∧ x.act = .go k) (hy : y.g = k ∧ y.act = .start) (hO : ∀ l, O l → l.isMemory = true) (hR : ∀ l, Rd l → l.isMemory = true) :
    PT k O Rd B (t ++ #[x, y]) := by
  have hn : ∀ op ∈ (#[x, y] : Trace), op.act.touch? = none := by
    intro op hop
    simp only [List.mem_toArray, List.mem_cons, List.not_mem_nil, or_false] at hop
    rcases hop with rfl | rfl
    · rw [hx.2]; rfl
    · rw [hy.2]; rfl
  have hq : ∀ g, ∀ op ∈ (#[x, y] : Trace), ∀ d, deafStep g d op = d := by
    intro g op hop d
    simp only [List.mem_toArray, List.mem_cons, List.not_mem_nil, or_false] at hop
    rcases hop with rfl | rfl
    · simp [deafStep, hx.2]
    · simp [deafStep, hy.2]
  have kn : ∀ i a, touchAt (t ++ #[x, y]) i = some a → a.loc.isMemory = true → ∃ z, t[i]? = some z ∧ Knows t 0 i := by
    intro i a ha hm
    obtain ⟨z, hz, hza⟩ := touch_of ha
    rcases getElem?_append_cases hz with ⟨_, hz'⟩ | ⟨_, hzu⟩
    · exact ⟨z, hz', (h.known i a (by rw [touchAt_of hz']; exact hza) hm).elim id fun x => x.1.elim⟩
    · rw [hn z hzu] at hza; cases hza
  refine ⟨fun said => noRace_appendMute (h.clean said) hn, fun i a z ha hm hz hg => ?_, fun l hl i a ha e => ?_, fun l hl i a ha e _ => ?_, fun i a z ha hm hz hg => ?_, (Deaf_quiet (hq 0)).trans h.hears, (Deaf_quiet (hq k)).trans hdk, seen_app h.seen fun op hop => ?_⟩
  · obtain ⟨_, _, hk⟩ := kn i a ha hm
    exact hk.app _
  · obtain ⟨_, _, hk⟩ := kn i a ha (by rw [e]; exact hO l hl)
    exact fork_knows hx hy h.hears hdk hk
  · obtain ⟨_, _, hk⟩ := kn i a ha (by rw [e]; exact hR l hl)
    exact fork_knows hx hy h.hears hdk hk
  · obtain ⟨_, _, hk⟩ := kn i a ha hm
    exact .inl (hk.app _)
  · simp only [List.mem_toArray, List.mem_cons, List.not_mem_nil, or_false] at hop
    rcases hop with rfl | rfl
    · rw [hx.2]; trivial
    · rw [hy.2]; trivial
structure PTC (k c m : Nat) (O Rd : Loc → Prop) (B : Nat) (t : Trace) : Prop where
  pt : PT k O Rd B t
  act : t.act? m = some (.close c)
  g : t.g? m = some k
  heard : t.heard m
  last : ∀ i z, t[i]? = some z → z.g = k → m < i → z.act.touch? = none
theorem PTC.app {c m : Nat} (h : PTC k c m O Rd B t) (hp : PT k O Rd B (t ++ u)) (hn : ∀ op ∈ u, op.g = k → op.act.touch? = none) : PTC k c m O Rd B (t ++ u) := by
  obtain ⟨z, hz, hzg⟩ := Option.map_eq_some_iff.1 (show (t[m]?).map (·.g) = some k from h.g)
  have hlt := lt_size_of_getElem? hz
  obtain ⟨g', hg', hd'⟩ := h.heard
  refine ⟨hp, by simpa [Trace.act?, getElem?_append_old hlt] using h.act, by rw [g?_old hlt]; exact h.g, ⟨g', by rw [g?_old hlt]; exact hg', by rw [deaf_old (Nat.le_of_lt hlt)]; exact hd'⟩, fun i z hz hg hi => ?_⟩
  rcases getElem?_append_cases hz with ⟨_, hz'⟩ | ⟨_, hzu⟩
  · exact h.last i z hz' hg hi
  · exact hn z hzu hg
theorem PTC.take {c m : Nat} (h : PTC k c m O Rd B t) (fj : FuncId) (pj : String) (hc : c < B) : Past (fun _ => False) B (t ++ #[{ g := 0, fn := fj, pos := pj, act := .recvClosed c }]) := by
  generalize hu : (#[{ g := 0, fn := fj, pos := pj, act := .recvClosed c }] : Trace) = u
  obtain ⟨z, hz, hzg⟩ := Option.map_eq_some_iff.1 (show (t[m]?).map (·.g) = some k from h.g)
  have hlt := lt_size_of_getElem? hz
  have hn : ∀ op ∈ u, op.act.touch? = none := by
    intro op hop
    subst hu
    simp only [List.mem_toArray, List.mem_cons, List.not_mem_nil, or_false] at hop
    subst hop; rfl
  have hq : ∀ g, ∀ op ∈ u, ∀ d, deafStep g d op = d := by
    intro g op hop d
    subst hu
    simp only [List.mem_toArray, List.mem_cons, List.not_mem_nil, or_false] at hop
    subst hop; rfl
  have e0 : (t ++ u)[t.size]? = some { g := 0, fn := fj, pos := pj, act := .recvClosed c } := by subst hu; simp
  have hhm' : (t ++ u).heard m := by
    obtain ⟨g', hg', hd'⟩ := h.heard
    exact ⟨g', by rw [g?_old hlt]; exact hg', by rw [deaf_old (Nat.le_of_lt hlt)]; exact hd'⟩
  have edge : HappensBefore (t ++ u) m t.size :=
    Relation.TransGen.single (.inr ⟨.closed (by simpa [Trace.act?, getElem?_append_old hlt] using h.act) (act?_of e0), hhm', ⟨0, g?_of e0, by rw [deaf_old (Nat.le_refl _)]; exact h.pt.hears⟩⟩)
  have kn : ∀ i a, touchAt (t ++ u) i = some a → a.loc.isMemory = true → Knows (t ++ u) 0 i := by
    intro i a ha hm
    obtain ⟨x, hx, hxa⟩ := touch_of ha
    rcases getElem?_append_cases hx with ⟨_, hx'⟩ | ⟨_, hxu⟩
    · by_cases hg : x.g = k
      · refine ⟨t.size, _, e0, rfl, .inr ?_⟩
        rcases Nat.lt_trichotomy i m with y | y | y
        · exact (hb_app u (hb_po y hx' hz (hg.trans hzg.symm))).trans edge
        · subst y; exact edge
        · rw [h.last i x hx' hg y] at hxa; cases hxa
      · exact (h.pt.zero i a x (by rw [touchAt_of hx']; exact hxa) hm hx' hg).app u
    · rw [hn x hxu] at hxa; cases hxa
  refine ⟨fun said => noRace_appendMute (h.pt.clean said) hn, fun i a ha hm => .inl (kn i a ha hm), fun i g hg hne ⟨x, hx, hm, _⟩ => ?_, (Deaf_quiet (hq 0)).trans h.pt.hears, seen_app h.pt.seen fun op hop => ?_⟩
  · obtain ⟨q, z2, hq2, hz2, hb⟩ := kn i x hx hm
    rcases hb with rfl | hb
    · rw [g?_of hq2, hz2] at hg
      exact absurd (Option.some.inj hg).symm hne
    · exact ⟨q, by rw [g?_of hq2, hz2], hb⟩
  · subst hu
    simp only [List.mem_toArray, List.mem_cons, List.not_mem_nil, or_false] at hop
    subst hop; exact hc
structure PTD (k c m : Nat) (O Rd : Loc → Prop) (B : Nat) (t : Trace) : Prop where
  clean : ∀ said, ¬ Race said t
  zero : ∀ i a z, touchAt t i = some a → a.loc.isMemory = true → t[i]? = some z → z.g ≠ k → Knows t 0 i
  child : ∀ i a z, touchAt t i = some a → a.loc.isMemory = true → t[i]? = some z → z.g = k → Knows t 0 i ∨ O a.loc ∨ (Rd a.loc ∧ a.write = false)
  hears : Deaf t 0 = 0
  seen : ∀ op ∈ t, op.act.low B
  act : t.act? m = some (.close c)
  g : t.g? m = some k
  heard : t.heard m
  last : ∀ i z, t[i]? = some z → z.g = k → m < i → z.act.touch? = none
theorem PTC.toD {c m : Nat} (h : PTC k c m O Rd B t) : PTD k c m O Rd B t := ⟨h.pt.clean, h.pt.zero, h.pt.child, h.pt.hears, h.pt.seen, h.act, h.g, h.heard, h.last⟩
theorem PTD.mono {c m : Nat} (h : PTD k c m O Rd B t) (hB : B ≤ B') : PTD k c m O Rd B' t := ⟨h.clean, h.zero, h.child, h.hears, fun op hop => MemAct.low_mono hB (h.seen op hop), h.act, h.g, h.heard, h.last⟩
theorem PTD.rest {c m : Nat} (h : PTD k c m O Rd B t) (hn : ∀ op ∈ u, op.g = k → op.act.touch? = none) : (t ++ u).act? m = some (.close c) ∧ (t ++ u).g? m = some k ∧ (t ++ u).heard m ∧ ∀ i z, (t ++ u)[i]? = some z → z.g = k → m < i → z.act.touch? = none := by
  obtain ⟨z, hz, hzg⟩ := Option.map_eq_some_iff.1 (show (t[m]?).map (·.g) = some k from h.g)
  have hlt := lt_size_of_getElem? hz
  obtain ⟨g', hg', hd'⟩ := h.heard
  refine ⟨by simpa [Trace.act?, getElem?_append_old hlt] using h.act, by rw [g?_old hlt]; exact h.g, ⟨g', by rw [g?_old hlt]; exact hg', by rw [deaf_old (Nat.le_of_lt hlt)]; exact hd'⟩, fun i z hz hg hi => ?_⟩
  rcases getElem?_append_cases hz with ⟨_, hz'⟩ | ⟨_, hzu⟩
  · exact h.last i z hz' hg hi
  · exact hn z hzu hg
theorem PTD.app0 {c m : Nat} (h : PTD k c m O Rd B t) (hk : k ≠ 0) (hu : ∀ op ∈ u, op.g = 0) (ho : ∀ op ∈ u, ∀ b, op.act.touch? = some b → ¬ O b.loc ∧ (Rd b.loc → b.write = false)) (hd : Deaf (t ++ u) 0 = Deaf t 0) (hl : ∀ op ∈ u, op.act.low B) : PTD k c m O Rd B (t ++ u) := by
  obtain ⟨r1, r2, r3, r4⟩ := h.rest (u := u) fun op hop e => absurd ((hu op hop).symm.trans e) (fun x => hk x.symm)
  refine ⟨fun said => noRace_append (h.clean said) hu fun i a ha op hop b hb hc => ?_, fun i a z ha hm hz hg => ?_, fun i a z ha hm hz hg => ?_, hd.trans h.hears, seen_app h.seen hl, r1, r2, r3, r4⟩
  · obtain ⟨z, hz, hza⟩ := touch_of ha
    by_cases hg : z.g = k
    · rcases h.child i a z ha hc.2.1 hz hg with x | x | ⟨x, y⟩
      · exact x
      · exact absurd (hc.1 ▸ x) (ho op hop b hb).1
      · rcases hc.2.2.1 with q | q
        · rw [y] at q; cases q
        · rw [(ho op hop b hb).2 (hc.1 ▸ x)] at q; cases q
    · exact h.zero i a z ha hc.2.1 hz hg
  · obtain ⟨x, hx, hxa⟩ := touch_of ha
    rw [hz] at hx
    obtain rfl := Option.some.inj hx
    rcases getElem?_append_cases hz with ⟨_, hz'⟩ | ⟨_, hzu⟩
    · exact (h.zero i a z (by rw [touchAt_of hz']; exact hxa) hm hz' hg).app u
    · have := knows_own hz
      rw [hu z hzu] at this
      exact this
  · obtain ⟨x, hx, hxa⟩ := touch_of ha
    rw [hz] at hx
    obtain rfl := Option.some.inj hx
    rcases getElem?_append_cases hz with ⟨_, hz'⟩ | ⟨_, hzu⟩
    · exact (h.child i a z (by rw [touchAt_of hz']; exact hxa) hm hz' hg).imp (Knows.app u) id
    · exact absurd (hg.symm.trans (hu z hzu)) hk
theorem PTD.mute {c m : Nat} (h : PTD k c m O Rd B t) (hn : ∀ op ∈ u, op.act.touch? = none) (hd : Deaf (t ++ u) 0 = Deaf t 0) (hl : ∀ op ∈ u, op.act.low B) : PTD k c m O Rd B (t ++ u) := by
  obtain ⟨r1, r2, r3, r4⟩ := h.rest (u := u) fun op hop _ => hn op hop
  refine ⟨fun said => noRace_appendMute (h.clean said) hn, fun i a z ha hm hz hg => ?_, fun i a z ha hm hz hg => ?_, hd.trans h.hears, seen_app h.seen hl, r1, r2, r3, r4⟩
  all_goals
    obtain ⟨x, hx, hxa⟩ := touch_of ha
    rw [hz] at hx
    obtain rfl := Option.some.inj hx
    rcases getElem?_append_cases hz with ⟨_, hz'⟩ | ⟨_, hzu⟩
  · exact (h.zero i a z (by rw [touchAt_of hz']; exact hxa) hm hz' hg).app u
  · rw [hn z hzu] at hxa; cases hxa
  · exact (h.child i a z (by rw [touchAt_of hz']; exact hxa) hm hz' hg).imp (Knows.app u) id
  · rw [hn z hzu] at hxa; cases hxa
theorem PTD.take {c m : Nat} (h : PTD k c m O Rd B t) (fj : FuncId) (pj : String) (hc : c < B) : Past (fun _ => False) B (t ++ #[{ g := 0, fn := fj, pos := pj, act := .recvClosed c }]) := by
  generalize hu : (#[{ g := 0, fn := fj, pos := pj, act := .recvClosed c }] : Trace) = u
  obtain ⟨z, hz, hzg⟩ := Option.map_eq_some_iff.1 (show (t[m]?).map (·.g) = some k from h.g)
  have hlt := lt_size_of_getElem? hz
  have hn : ∀ op ∈ u, op.act.touch? = none := by
    intro op hop
    subst hu
    simp only [List.mem_toArray, List.mem_cons, List.not_mem_nil, or_false] at hop
    subst hop; rfl
  have hq : ∀ g, ∀ op ∈ u, ∀ d, deafStep g d op = d := by
    intro g op hop d
    subst hu
    simp only [List.mem_toArray, List.mem_cons, List.not_mem_nil, or_false] at hop
    subst hop; rfl
  have e0 : (t ++ u)[t.size]? = some { g := 0, fn := fj, pos := pj, act := .recvClosed c } := by subst hu; simp
  have hhm' : (t ++ u).heard m := by
    obtain ⟨g', hg', hd'⟩ := h.heard
    exact ⟨g', by rw [g?_old hlt]; exact hg', by rw [deaf_old (Nat.le_of_lt hlt)]; exact hd'⟩
  have edge : HappensBefore (t ++ u) m t.size :=
    Relation.TransGen.single (.inr ⟨.closed (by simpa [Trace.act?, getElem?_append_old hlt] using h.act) (act?_of e0), hhm', ⟨0, g?_of e0, by rw [deaf_old (Nat.le_refl _)]; exact h.hears⟩⟩)
  have kn : ∀ i a, touchAt (t ++ u) i = some a → a.loc.isMemory = true → Knows (t ++ u) 0 i := by
    intro i a ha hm
    obtain ⟨x, hx, hxa⟩ := touch_of ha
    rcases getElem?_append_cases hx with ⟨_, hx'⟩ | ⟨_, hxu⟩
    · by_cases hg : x.g = k
      · refine ⟨t.size, _, e0, rfl, .inr ?_⟩
        rcases Nat.lt_trichotomy i m with y | y | y
        · exact (hb_app u (hb_po y hx' hz (hg.trans hzg.symm))).trans edge
        · subst y; exact edge
        · rw [h.last i x hx' hg y] at hxa; cases hxa
      · exact (h.zero i a x (by rw [touchAt_of hx']; exact hxa) hm hx' hg).app u
    · rw [hn x hxu] at hxa; cases hxa
  refine ⟨fun said => noRace_appendMute (h.clean said) hn, fun i a ha hm => .inl (kn i a ha hm), fun i g hg hne ⟨x, hx, hm, _⟩ => ?_, (Deaf_quiet (hq 0)).trans h.hears, seen_app h.seen fun op hop => ?_⟩
  · obtain ⟨q, z2, hq2, hz2, hb⟩ := kn i x hx hm
    rcases hb with rfl | hb
    · rw [g?_of hq2, hz2] at hg
      exact absurd (Option.some.inj hg).symm hne
    · exact ⟨q, by rw [g?_of hq2, hz2], hb⟩
  · subst hu
    simp only [List.mem_toArray, List.mem_cons, List.not_mem_nil, or_false] at hop
    subst hop; exact hc
end
end Go.Proofs.Ytndncmjhpbjcoaa

/- A pipe: what the sender's walk and the receiver's walk show of themselves; where both stand while the channel is open; their own steps. -/
namespace Go.Proofs.Ytndncmjhpbjcoaa
open Go Go.Conc Go.ConcN

section
variable (P : Program) (S : Nat → Prop) (c : Nat) (z : Value) (FinS : (Nat → Prop) → World → Prop) (FinR : (Nat → Prop) → Goroutine → World → Prop)
def SendsO : List Value → (Nat → Prop) → Goroutine → World → Prop
  | [], O, g, w => g.status = .running ∧ mayWake P g = true ∧ FinS O w ∧ ∃ g' n, QuitsD P n 0 g' ∧ g'.status = .running ∧ ∀ s r, w.heap[c]? = some (.chan 0 #[] false s r false) → stepG P false g w = .go g' (w.setChan c 0 #[] true s r false) (closeEvents c)
  | v :: vs, O, g, w => g.status = .running ∧ ∃ z' es, stepG P false g w = .comm (core g) #[scase c v z'] true .send w es ∧ (∀ e ∈ es, EvO S O e) ∧ ∀ w1, Keep S O w w1 → Co P false S (SendsO vs) O (Conc.served (core g) undef) w1
def RecvsO : List Value → (Nat → Prop) → Goroutine → World → Prop
  | [], O, g, w => g.status = .running ∧ ∃ es, stepG P true g w = .comm (core g) #[rcase c z] true (.recv true) w es ∧ (∀ e ∈ es, EvO S O e) ∧ ∀ w1, Keep S O w w1 → FinR O (Conc.served (core g) (.tuple #[z, .bool false])) w1
  | v :: vs, O, g, w => g.status = .running ∧ ∃ es, stepG P true g w = .comm (core g) #[rcase c z] true (.recv true) w es ∧ (∀ e ∈ es, EvO S O e) ∧ ∀ w1, Keep S O w w1 → Co P true S (RecvsO vs) O (Conc.served (core g) (.tuple #[v, .bool true])) w1
def SitS (vs : List Value) (O : Nat → Prop) (x : Option CoS) (g : Goroutine) (w : World) : Prop :=
  (∃ W, x = some ⟨O, g, W⟩ ∧ Co P false S (SendsO P S c FinS vs) O g W ∧ Keep S O W w) ∨
  (x = none ∧ ∃ g0 v vs' z', vs = v :: vs' ∧ g = parked (core g0) #[scase c v z'] .send ∧ ∀ w1, Keep S O w w1 → Co P false S (SendsO P S c FinS vs') O (Conc.served (core g0) undef) w1)
def SitR (vs : List Value) (O : Nat → Prop) (x : Option CoS) (g : Goroutine) (w : World) : Prop :=
  (∃ W, x = some ⟨O, g, W⟩ ∧ Co P true S (RecvsO P S c z FinR vs) O g W ∧ Keep S O W w) ∨
  (x = none ∧ ∃ g0, g = parked (core g0) #[rcase c z] (.recv true) ∧ ∀ w1, Keep S O w w1 → RecvsO P S c z FinR vs O g0 w1)
end
def OL (X : Nat → Prop) (l : Loc) : Prop := (∃ a, l = .cell a ∧ X a.block) ∨ (∃ s, l = .obj s ∧ X s)
section
variable {P : Program} {S : Nat → Prop} {c : Nat} {z : Value} {FinS : (Nat → Prop) → World → Prop} {FinR : (Nat → Prop) → Goroutine → World → Prop} {vs : List Value} {O O0 O1 : Nat → Prop} {x y : Option CoS} {g a b : Goroutine} {w w1 : World}
theorem SitS.rely (h : SitS P S c FinS vs O x g w) (k : Keep S O w w1) : SitS P S c FinS vs O x g w1 := by
  rcases h with ⟨W, h1, h2, h3⟩ | ⟨h1, g0, v, vs', z', h2, h3, h4⟩
  · exact .inl ⟨W, h1, h2, h3.trans k⟩
  · exact .inr ⟨h1, g0, v, vs', z', h2, h3, fun w2 k2 => h4 w2 (k.trans k2)⟩
theorem SitR.rely (h : SitR P S c z FinR vs O x g w) (k : Keep S O w w1) : SitR P S c z FinR vs O x g w1 := by
  rcases h with ⟨W, h1, h2, h3⟩ | ⟨h1, g0, h2, h3⟩
  · exact .inl ⟨W, h1, h2, h3.trans k⟩
  · exact .inr ⟨h1, g0, h2, fun w2 k2 => h3 w2 (k.trans k2)⟩
theorem SendsO.running (h : SendsO P S c FinS vs O g w) : g.status = .running := by cases vs <;> exact h.1
theorem RecvsO.running (h : RecvsO P S c z FinR vs O g w) : g.status = .running := by cases vs <;> exact h.1
theorem Co.running {main : Bool} {Stop : (Nat → Prop) → Goroutine → World → Prop} (hs : ∀ O g w, Stop O g w → g.status = .running) (h : Co P main S Stop O g w) : g.status = .running := by
  cases h with
  | stop h => exact hs _ _ _ (h w ⟨fun _ _ _ => rfl, Nat.le_refl _⟩)
  | step hr _ _ => exact hr
theorem SitS.status (h : SitS P S c FinS vs O x g w) : (g.status = .running ∧ x ≠ none) ∨ (g.status = .blocked ∧ x = none) := by
  rcases h with ⟨W, h1, h2, h3⟩ | ⟨h1, g0, v, vs', z', h2, h3, h4⟩
  · exact .inl ⟨h2.running fun _ _ _ => SendsO.running, by rw [h1]; simp⟩
  · exact .inr ⟨by rw [h3]; rfl, h1⟩
theorem SitR.status (h : SitR P S c z FinR vs O x g w) : (g.status = .running ∧ x ≠ none) ∨ (g.status = .blocked ∧ x = none) := by
  rcases h with ⟨W, h1, h2, h3⟩ | ⟨h1, g0, h2, h3⟩
  · exact .inl ⟨h2.running fun _ _ _ => RecvsO.running, by rw [h1]; simp⟩
  · exact .inr ⟨by rw [h2]; rfl, h1⟩
theorem woken_running2 {g g' : Goroutine} (h : a.status = .running) : woken P g g' w a = a := by
  unfold woken
  split
  · exact Conc.again_running w (.inl h)
  · rfl
theorem SitS.woken {g g' : Goroutine} {s r : Nat} (h : SitS P S c FinS vs O x b w) {w' : World} (hc : w'.heap[c]? = some (.chan 0 #[] false s r false)) : woken P g g' w' b = b := by
  rcases h with ⟨W, h1, h2, h3⟩ | ⟨h1, g0, v, vs', z', h2, h3, h4⟩
  · exact woken_running2 (h2.running fun _ _ _ => SendsO.running)
  · rw [h3]; exact woken_send_open _ _ hc
theorem SitR.woken {g g' : Goroutine} {s r : Nat} (h : SitR P S c z FinR vs O x a w) {w' : World} (hc : w'.heap[c]? = some (.chan 0 #[] false s r false)) : woken P g g' w' a = a := by
  rcases h with ⟨W, h1, h2, h3⟩ | ⟨h1, g0, h2, h3⟩
  · exact woken_running2 (h2.running fun _ _ _ => RecvsO.running)
  · rw [h2]; exact woken_recv_open _ _ hc
theorem evO_touch {e : Event} (h : EvO S O e) {t : Touch} (ht : (MemAct.ofEvent e).touch? = some t) : OL O t.loc ∨ (OL S t.loc ∧ t.write = false) := by
  rcases h with ⟨ad, h1, h2, h3⟩ | ⟨s, rfl, h3⟩ | rfl
  · obtain ⟨loc, wr, sy⟩ := e
    simp only at h1 h2 h3
    subst h1 h2
    simp only [MemAct.ofEvent, MemAct.touch?, Option.some.injEq] at ht
    subst ht
    rcases h3 with q | ⟨q, q2⟩
    · exact .inl (.inl ⟨ad, rfl, q⟩)
    · exact .inr ⟨.inl ⟨ad, rfl, q⟩, q2⟩
  · simp only [MemAct.ofEvent, MemAct.touch?, Option.some.injEq] at ht
    subst ht
    rcases h3 with q | q
    · exact .inl (.inr ⟨s, rfl, q⟩)
    · exact .inr ⟨.inr ⟨s, rfl, q⟩, rfl⟩
  · simp [MemAct.ofEvent, MemAct.touch?] at ht
theorem evO_low {e : Event} {B : Nat} (h : EvO S O e) (hS : ∀ b, S b → b < B) (hO : ∀ b, O b → b < B) : (MemAct.ofEvent e).low B := by
  rcases h with ⟨ad, h1, h2, h3⟩ | ⟨s, rfl, h3⟩ | rfl
  · obtain ⟨loc, wr, sy⟩ := e
    simp only at h1 h2 h3
    subst h1 h2
    exact h3.elim (hO _) fun q => hS _ q.1
  · exact h3.elim (hO _) (hS _)
  · trivial
theorem evO_deaf {e : Event} (h : EvO S O e) {i j : Nat} {fn : FuncId} {pos : String} (d : Nat) : deafStep j d { g := i, fn, pos, act := .ofEvent e } = d := by
  rcases h with ⟨ad, h1, h2, h3⟩ | ⟨s, rfl, h3⟩ | rfl
  · obtain ⟨loc, wr, sy⟩ := e
    simp only at h1 h2
    subst h1 h2
    rfl
  · rfl
  · rfl
end
end Go.Proofs.Ytndncmjhpbjcoaa

/- While the pipe is open: what stands, and the own steps of the receiver and of the sender. -/
namespace Go.Proofs.Ytndncmjhpbjcoaa
open Go Go.Conc Go.ConcN

structure Parts (S O0 O1 : Nat → Prop) (c n : Nat) : Prop where
  cS : ¬ S c
  c0 : ¬ O0 c
  c1 : ¬ O1 c
  S0 : ∀ b, S b → ¬ O0 b
  S1 : ∀ b, S b → ¬ O1 b
  d : ∀ b, O0 b → ¬ O1 b
  lS : ∀ b, S b → b < n
  l0 : ∀ b, O0 b → b < n
  l1 : ∀ b, O1 b → b < n
  lc : c < n
structure Since (w0 : World) (I O0 O1 : Nat → Prop) (c : Nat) (w : World) : Prop where
  tape : w.tape = w0.tape
  os : w.os = w0.os
  out : w.output = w0.output
  size : w0.heap.size ≤ w.heap.size
  block : ∀ b, b < w0.heap.size → ¬ I b → b ≠ c → w.heap[b]? = w0.heap[b]?
  o0 : ∀ b, O0 b → b < w0.heap.size → I b
  o1 : ∀ b, O1 b → b < w0.heap.size → I b
theorem ol_apart {X Y : Nat → Prop} (h : ∀ b, X b → ¬ Y b) {l : Loc} (hl : OL X l) : ¬ OL Y l := by
  rcases hl with ⟨a, rfl, ha⟩ | ⟨s, rfl, hs⟩
  · rintro (⟨a2, e, h2⟩ | ⟨s2, e, h2⟩)
    · cases e; exact h _ ha h2
    · cases e
  · rintro (⟨a2, e, h2⟩ | ⟨s2, e, h2⟩)
    · cases e
    · cases e; exact h _ hs h2
def RdL (S : Nat → Prop) (c : Nat) (l : Loc) : Prop := OL S l ∨ l = .obj c
theorem rdl_apart {S Y : Nat → Prop} {c : Nat} (h : ∀ b, S b → ¬ Y b) (hc : ¬ Y c) {l : Loc} (hl : RdL S c l) : ¬ OL Y l := by
  rcases hl with hl | rfl
  · exact ol_apart h hl
  · rintro (⟨a2, e, h2⟩ | ⟨s2, e, h2⟩)
    · cases e
    · cases e; exact hc h2
section
variable (P : Program) (S : Nat → Prop) (c : Nat) (z : Value) (FinS : (Nat → Prop) → World → Prop) (FinR : (Nat → Prop) → Goroutine → World → Prop) (k : Nat) (w0 : World) (I : Nat → Prop)
structure Opn (vs : List Value) (O0 O1 : Nat → Prop) (x y : Option CoS) (gs : Array Goroutine) (w : World) (t : Trace) (q : Nat → Nat) : Prop where
  k0 : k ≠ 0
  zero : ∃ a, gs[0]? = some a ∧ SitR P S c z FinR vs O0 x a w
  kid : ∃ b, gs[k]? = some b ∧ SitS P S c FinS vs O1 y b w
  rest : ∀ i g, 0 < i → i ≠ k → gs[i]? = some g → QuitsD P (q i) (Deaf t i) g
  above : ∀ j, gs.size ≤ j → Deaf t j = 0
  some1 : x ≠ none ∨ y ≠ none
  chan : ∃ s r, w.heap[c]? = some (.chan 0 #[] false s r false)
  mem : Parts S O0 O1 c w.heap.size
  far : Since w0 I O0 O1 c w
  pt : PT k (OL O1) (RdL S c) w.heap.size t
end
theorem keep_at (S O : Nat → Prop) (w : World) (d : Nat) : Keep S O w (w.at d) := ⟨fun _ _ _ => rfl, Nat.le_refl _⟩
section
variable {P : Program} {S : Nat → Prop} {c : Nat} {z : Value} {FinS : (Nat → Prop) → World → Prop} {FinR : (Nat → Prop) → Goroutine → World → Prop} {k : Nat} {w0 : World} {I : Nat → Prop}
variable {vs : List Value} {O0 O1 : Nat → Prop} {x y : Option CoS} {X : CoS} {gs gs' : Array Goroutine} {w : World} {t u : Trace} {q : Nat → Nat}
theorem Opn.at (h : Opn P S c z FinS FinR k w0 I vs O0 O1 x y gs w t q) (d : Nat) : Opn P S c z FinS FinR k w0 I vs O0 O1 x y gs (w.at d) t q := by
  obtain ⟨a, ha, hs⟩ := h.zero
  obtain ⟨b, hb, hk⟩ := h.kid
  exact ⟨h.k0, ⟨a, ha, hs.rely (keep_at _ _ _ _)⟩, ⟨b, hb, hk.rely (keep_at _ _ _ _)⟩, h.rest, h.above, h.some1, h.chan, h.mem, ⟨h.far.tape, h.far.os, h.far.out, h.far.size, h.far.block, h.far.o0, h.far.o1⟩, h.pt⟩
theorem rest_step (h : ∀ i g, 0 < i → i ≠ k → gs[i]? = some g → QuitsD P (q i) (Deaf t i) g) (hq : ∀ g, ∀ op ∈ u, ∀ d, deafStep g d op = d)
    (hgs : ∀ j x, 0 < j → j ≠ k → gs'[j]? = some x → ∃ y, gs[j]? = some y ∧ (x = y ∨ ∃ a b w, x = woken P a b w y)) : ∀ i g, 0 < i → i ≠ k → gs'[i]? = some g → QuitsD P (q i) (Deaf (t ++ u) i) g := by
  intro i g hi hik hg
  rw [Deaf_quiet (hq i)]
  obtain ⟨y, hy, rfl | ⟨a, b, w, rfl⟩⟩ := hgs i g hi hik hg
  · exact h i g hi hik hy
  · have := h i y hi hik hy
    rw [woken_quitsD this]
    exact this
theorem evs_deaf {O : Nat → Prop} {es : Array Event} (h : ∀ e ∈ es, EvO S O e) (i : Nat) (fn : FuncId) (pos : String) : ∀ g, ∀ op ∈ MemOp.ofEvents i fn pos es, ∀ d, deafStep g d op = d := by
  intro g op hop d
  obtain ⟨e, he, rfl⟩ := Conc.mem_ofEvents hop
  exact evO_deaf (h e he) d
theorem grow_low {O : Nat → Prop} {w w2 : World} {b : Nat} (hs : w.heap.size ≤ w2.heap.size) (h : ∀ b, O b → b < w.heap.size) (hb : grow O w w2 b) : b < w2.heap.size := by
  rcases hb with hb | hb
  · have := h b hb; omega
  · exact hb.2
theorem Parts.grow0 (h : Parts S O0 O1 c w.heap.size) {w2 : World} (hs : w.heap.size ≤ w2.heap.size) : Parts S (grow O0 w w2) O1 c w2.heap.size :=
  ⟨h.cS, fun e => e.elim h.c0 fun x => by have := h.lc; omega, h.c1, fun b hb e => e.elim (h.S0 b hb) fun x => by have := h.lS b hb; omega, h.S1, fun b hb e => hb.elim (fun x => h.d b x e) fun x => by have := h.l1 b e; omega,
   fun b hb => by have := h.lS b hb; omega, fun b hb => grow_low hs h.l0 hb, fun b hb => by have := h.l1 b hb; omega, by have := h.lc; omega⟩
theorem Parts.grow1 (h : Parts S O0 O1 c w.heap.size) {w2 : World} (hs : w.heap.size ≤ w2.heap.size) : Parts S O0 (grow O1 w w2) c w2.heap.size :=
  ⟨h.cS, h.c0, fun e => e.elim h.c1 fun x => by have := h.lc; omega, h.S0, fun b hb e => e.elim (h.S1 b hb) fun x => by have := h.lS b hb; omega, fun b hb e => e.elim (h.d b hb) fun x => by have := h.l0 b hb; omega,
   fun b hb => by have := h.lS b hb; omega, fun b hb => by have := h.l0 b hb; omega, fun b hb => grow_low hs h.l1 hb, by have := h.lc; omega⟩
theorem Co.now2 {main : Bool} {Stop : (Nat → Prop) → Goroutine → World → Prop} {O : Nat → Prop} {g : Goroutine} {W W1 : World} (h : Co P main S Stop O g W) (k : Keep S O W W1) : AtStop S Stop ⟨O, g, W⟩ ∨ (g.status = .running ∧ ∃ g' W2 es, stepG P main g W1 = .go g' W2 es ∧ OwnStep S O W1 W2 es ∧ Co P main S Stop (grow O W1 W2) g' W2 ∧ NxC P main S Stop ⟨grow O W1 W2, g', W2⟩ ⟨O, g, W⟩) := by
  cases h with
  | stop h => exact .inl h
  | step hr hp h =>
    by_cases hn : AtStop S Stop ⟨O, g, W⟩
    · exact .inl hn
    · obtain ⟨g', W2, es, h1, h2⟩ := hp W1 k
      exact .inr ⟨hr, g', W2, es, h1, h2, h W1 k g' W2 es h1, hn, W1, es, k, h1, rfl⟩
theorem Opn.own0 (h : Opn P S c z FinS FinR k w0 I vs O0 O1 (some X) y gs w t q) (sl : Option (Nat × Nat)) : (∃ a, gs[0]? = some a ∧ ∀ w1, Keep S O0 w w1 → RecvsO P S c z FinR vs O0 a w1) ∨
    ∃ gs' w' ops X', runT P (crowd gs w sl) 0 = (.next (crowd gs' w' sl), ops) ∧ NxC P true S (RecvsO P S c z FinR vs) X' X ∧ Opn P S c z FinS FinR k w0 I vs X'.O O1 (some X') y gs' w' (t ++ ops) q ∧ gs'.size = gs.size := by
  obtain ⟨a, ha, hs⟩ := h.zero
  rcases hs with ⟨W, e, hco, hkp⟩ | ⟨e, _⟩
  rotate_left
  · cases e
  obtain rfl := Option.some.inj e
  rcases hco.now2 hkp with hst | ⟨hr, a', w2, es, h1, h2, h3, h4⟩
  · exact .inl ⟨a, ha, fun w1 k1 => hst w1 (hkp.trans k1)⟩
  refine .inr ⟨_, w2, _, ⟨grow O0 w w2, a', w2⟩, runT_crowd_go ha h1, h4, ?_, by simp⟩
  have hlt : 0 < gs.size := (Array.getElem?_eq_some_iff.1 ha).1
  obtain ⟨s, r, hc⟩ := h.chan
  have hc2 : w2.heap[c]? = some (.chan 0 #[] false s r false) := by rw [h2.block c h.mem.lc h.mem.c0]; exact hc
  have hP := h.mem.grow0 h2.size
  have hk1 : Keep S O1 w w2 := ⟨fun b hb hx => h2.block b hb fun e => hx.elim (fun q => h.mem.S0 b q e) fun q => h.mem.d b e q, h2.size⟩
  obtain ⟨b, hb, hkid⟩ := h.kid
  have hdq := evs_deaf h2.evs 0 a.frame.fn a.frame.place
  refine ⟨h.k0, ⟨a', by rw [Array.getElem?_setIfInBounds_self_of_lt (by simpa using hlt)], .inl ⟨w2, rfl, h3, ⟨fun _ _ _ => rfl, Nat.le_refl _⟩⟩⟩, ⟨b, ?_, hkid.rely hk1⟩, rest_step h.rest hdq fun j x hj hjk hx => ?_, fun j hj => ?_, .inl (by simp), ⟨s, r, hc2⟩, hP, ?_, ?_⟩
  · rw [Array.getElem?_setIfInBounds_ne (fun e => h.k0 e.symm), Array.getElem?_map, hb]
    simp only [Option.map_some, Option.some.injEq]
    exact hkid.woken hc2
  · rw [Array.getElem?_setIfInBounds_ne (by omega), Array.getElem?_map] at hx
    obtain ⟨y, hy, rfl⟩ := Option.map_eq_some_iff.1 hx
    exact ⟨y, hy, .inr ⟨_, _, _, rfl⟩⟩
  · rw [Deaf_quiet (hdq j)]
    exact h.above j (by simpa using hj)
  · refine ⟨h2.tape.trans h.far.tape, h2.os.trans h.far.os, h2.output.trans h.far.out, Nat.le_trans h.far.size h2.size, fun b hb hI hbc => ?_, fun b hb hlt => ?_, h.far.o1⟩
    · rw [h2.block b (by have := h.far.size; omega) fun e => hI (h.far.o0 b e hb)]
      exact h.far.block b hb hI hbc
    · rcases hb with hb | hb
      · exact h.far.o0 b hb hlt
      · have := h.far.size; omega
  · refine (h.pt.mono h2.size).app0 h.k0 (fun op hop => by obtain ⟨e, _, rfl⟩ := Conc.mem_ofEvents hop; rfl) (fun op hop tc ht => ?_) (Deaf_quiet (hdq 0)) fun op hop => ?_
    · obtain ⟨e, he, rfl⟩ := Conc.mem_ofEvents hop
      rcases evO_touch (h2.evs e he) ht with x | ⟨x, x2⟩
      · exact ⟨ol_apart hP.d x, fun hS => absurd x (rdl_apart hP.S0 hP.c0 hS)⟩
      · exact ⟨ol_apart hP.S1 x, fun _ => x2⟩
    · obtain ⟨e, he, rfl⟩ := Conc.mem_ofEvents hop
      exact evO_low (h2.evs e he) hP.lS hP.l0
theorem Opn.ownK (h : Opn P S c z FinS FinR k w0 I vs O0 O1 x (some X) gs w t q) (sl : Option (Nat × Nat)) : (∃ b, gs[k]? = some b ∧ ∀ w1, Keep S O1 w w1 → SendsO P S c FinS vs O1 b w1) ∨
    ∃ gs' w' ops X', runT P (crowd gs w sl) k = (.next (crowd gs' w' sl), ops) ∧ NxC P false S (SendsO P S c FinS vs) X' X ∧ Opn P S c z FinS FinR k w0 I vs O0 X'.O x (some X') gs' w' (t ++ ops) q ∧ gs'.size = gs.size := by
  obtain ⟨b, hb, hs⟩ := h.kid
  rcases hs with ⟨W, e, hco, hkp⟩ | ⟨e, _⟩
  rotate_left
  · cases e
  obtain rfl := Option.some.inj e
  rcases hco.now2 hkp with hst | ⟨hr, b', w2, es, h1, h2, h3, h4⟩
  · exact .inl ⟨b, hb, fun w1 k1 => hst w1 (hkp.trans k1)⟩
  have hk0 : (k == 0) = false := by simpa using h.k0
  refine .inr ⟨_, w2, _, ⟨grow O1 w w2, b', w2⟩, runT_crowd_go hb (by rw [hk0]; exact h1), h4, ?_, by simp⟩
  have hlt : k < gs.size := (Array.getElem?_eq_some_iff.1 hb).1
  obtain ⟨s, r, hc⟩ := h.chan
  have hc2 : w2.heap[c]? = some (.chan 0 #[] false s r false) := by rw [h2.block c h.mem.lc h.mem.c1]; exact hc
  have hP := h.mem.grow1 h2.size
  have hk1 : Keep S O0 w w2 := ⟨fun b hb hx => h2.block b hb fun e => hx.elim (fun q => h.mem.S1 b q e) fun q => h.mem.d b q e, h2.size⟩
  obtain ⟨a, ha, hzero⟩ := h.zero
  have hdq := evs_deaf h2.evs k b.frame.fn b.frame.place
  refine ⟨h.k0, ⟨a, ?_, hzero.rely hk1⟩, ⟨b', by rw [Array.getElem?_setIfInBounds_self_of_lt (by simpa using hlt)], .inl ⟨w2, rfl, h3, ⟨fun _ _ _ => rfl, Nat.le_refl _⟩⟩⟩, rest_step h.rest hdq fun j x hj hjk hx => ?_, fun j hj => ?_, .inr (by simp), ⟨s, r, hc2⟩, hP, ?_, ?_⟩
  · rw [Array.getElem?_setIfInBounds_ne h.k0, Array.getElem?_map, ha]
    simp only [Option.map_some, Option.some.injEq]
    exact hzero.woken hc2
  · rw [Array.getElem?_setIfInBounds_ne (fun e => hjk e.symm), Array.getElem?_map] at hx
    obtain ⟨y, hy, rfl⟩ := Option.map_eq_some_iff.1 hx
    exact ⟨y, hy, .inr ⟨_, _, _, rfl⟩⟩
  · rw [Deaf_quiet (hdq j)]
    exact h.above j (by simpa using hj)
  · refine ⟨h2.tape.trans h.far.tape, h2.os.trans h.far.os, h2.output.trans h.far.out, Nat.le_trans h.far.size h2.size, fun b hb hI hbc => ?_, h.far.o0, fun b hb hlt => ?_⟩
    · rw [h2.block b (by have := h.far.size; omega) fun e => hI (h.far.o1 b e hb)]
      exact h.far.block b hb hI hbc
    · rcases hb with hb | hb
      · exact h.far.o1 b hb hlt
      · have := h.far.size; omega
  · refine ((h.pt.mono h2.size).grow (O' := OL (grow O1 w w2)) (fun l hl => ?_) fun l hl => ?_).appK h.k0 (fun op hop => by obtain ⟨e, _, rfl⟩ := Conc.mem_ofEvents hop; rfl) (fun op hop tc ht => ?_) (Deaf_quiet (hdq k)) fun op hop => ?_
    · rcases hl with ⟨ad, e, hx⟩ | ⟨s, e, hx⟩
      · exact .inl ⟨ad, e, .inl hx⟩
      · exact .inr ⟨s, e, .inl hx⟩
    · have far : ∀ i tc, touchAt t i = some tc → tc.loc.low w.heap.size := fun i tc ht => by
        obtain ⟨zz, hz, hzt⟩ := touch_of ht
        exact touch_low (h.pt.seen zz (Array.mem_of_getElem? hz)) hzt
      rcases hl with ⟨ad, rfl, hx | hx⟩ | ⟨s, rfl, hx | hx⟩
      · exact .inl (.inl ⟨ad, rfl, hx⟩)
      · refine .inr fun i tc ht e => ?_
        have := far i tc ht
        rw [e] at this
        exact absurd this (by show ¬ ad.block < _; omega)
      · exact .inl (.inr ⟨s, rfl, hx⟩)
      · refine .inr fun i tc ht e => ?_
        have := far i tc ht
        rw [e] at this
        exact absurd this (by show ¬ s < _; omega)
    · obtain ⟨e, he, rfl⟩ := Conc.mem_ofEvents hop
      exact (evO_touch (h2.evs e he) ht).imp id fun x => ⟨.inl x.1, x.2⟩
    · obtain ⟨e, he, rfl⟩ := Conc.mem_ofEvents hop
      exact evO_low (h2.evs e he) hP.lS hP.l1
end
end Go.Proofs.Ytndncmjhpbjcoaa

/- While the pipe is open: waiting, and a value handed over. -/
namespace Go.Proofs.Ytndncmjhpbjcoaa
open Go Go.Conc Go.ConcN

section
variable {P : Program} {S : Nat → Prop} {c : Nat} {z : Value} {FinS : (Nat → Prop) → World → Prop} {FinR : (Nat → Prop) → Goroutine → World → Prop} {k : Nat} {w0 : World} {I : Nat → Prop}
variable {vs : List Value} {O0 O1 : Nat → Prop} {x y : Option CoS} {X : CoS} {gs gs' : Array Goroutine} {a b : Goroutine} {w w1 : World} {t u : Trace} {q : Nat → Nat} {v : Value}
theorem RecvsO.comm (h : RecvsO P S c z FinR vs O0 a w) : a.status = .running ∧ ∃ es, stepG P true a w = .comm (core a) #[rcase c z] true (.recv true) w es ∧ ∀ e ∈ es, EvO S O0 e := by
  cases vs <;> exact ⟨h.1, let ⟨_, es, h1, h2, _⟩ := h; ⟨es, h1, h2⟩⟩
theorem quits_silent {n d : Nat} {g : Goroutine} (h : QuitsD P n d g) (r : Nat) (s : Bool) : offersAt g r s = [] := offersAt_of_not_blocked (by rcases h.status with e | e <;> rw [e] <;> simp) r s
theorem keep_chan (h : Parts S O0 O1 c w.heap.size) {O : Nat → Prop} (hO : ¬ O c) (cap : Nat) (buf : Array Value) (cl : Bool) (s r : Nat) (tm : Bool) : Keep S O w (w.setChan c cap buf cl s r tm) :=
  ⟨fun b _ hb => by
    have : c ≠ b := fun e => by subst e; exact hb.elim h.cS hO
    simp [World.setChan, this], by simp [World.setChan]⟩
theorem since_chan (h : Since w0 I O0 O1 c w) (cap : Nat) (buf : Array Value) (cl : Bool) (s r : Nat) (tm : Bool) : Since w0 I O0 O1 c (w.setChan c cap buf cl s r tm) :=
  ⟨h.tape, h.os, h.out, by simpa [World.setChan] using h.size, fun b hb hI hc => by
    rw [← h.block b hb hI hc]
    have : c ≠ b := fun e => hc e.symm
    simp [World.setChan, this], h.o0, h.o1⟩
theorem heap_setChan (h : c < w.heap.size) (cap : Nat) (buf : Array Value) (cl : Bool) (s r : Nat) (tm : Bool) : (w.setChan c cap buf cl s r tm).heap[c]? = some (.chan cap buf cl s r tm) := by simp [World.setChan, h]
theorem size_setChan (cap : Nat) (buf : Array Value) (cl : Bool) (s r : Nat) (tm : Bool) : (w.setChan c cap buf cl s r tm).heap.size = w.heap.size := by simp [World.setChan]
theorem pt_evs0 (h : PT k (OL O1) (RdL S c) w.heap.size t) (k0 : k ≠ 0) (hm : Parts S O0 O1 c w.heap.size) {es : Array Event} (he : ∀ e ∈ es, EvO S O0 e) (fn : FuncId) (pos : String) : PT k (OL O1) (RdL S c) w.heap.size (t ++ MemOp.ofEvents 0 fn pos es) := by
  refine h.app0 k0 (fun op hop => by obtain ⟨e, _, rfl⟩ := Conc.mem_ofEvents hop; rfl) (fun op hop tc ht => ?_) (Deaf_quiet (evs_deaf he 0 fn pos 0)) fun op hop => ?_
  · obtain ⟨e, hin, rfl⟩ := Conc.mem_ofEvents hop
    rcases evO_touch (he e hin) ht with x | ⟨x, x2⟩
    · exact ⟨ol_apart hm.d x, fun hS => absurd x (rdl_apart hm.S0 hm.c0 hS)⟩
    · exact ⟨ol_apart hm.S1 x, fun _ => x2⟩
  · obtain ⟨e, hin, rfl⟩ := Conc.mem_ofEvents hop
    exact evO_low (he e hin) hm.lS hm.l0
theorem pt_evsK (h : PT k (OL O1) (RdL S c) w.heap.size t) (k0 : k ≠ 0) (hm : Parts S O0 O1 c w.heap.size) {es : Array Event} (he : ∀ e ∈ es, EvO S O1 e) (fn : FuncId) (pos : String) : PT k (OL O1) (RdL S c) w.heap.size (t ++ MemOp.ofEvents k fn pos es) := by
  refine h.appK k0 (fun op hop => by obtain ⟨e, _, rfl⟩ := Conc.mem_ofEvents hop; rfl) (fun op hop tc ht => ?_) (Deaf_quiet (evs_deaf he k fn pos k)) fun op hop => ?_
  · obtain ⟨e, hin, rfl⟩ := Conc.mem_ofEvents hop
    exact (evO_touch (he e hin) ht).imp id fun x => ⟨.inl x.1, x.2⟩
  · obtain ⟨e, hin, rfl⟩ := Conc.mem_ofEvents hop
    exact evO_low (he e hin) hm.lS hm.l1
theorem met4 {i j : Nat} {f1 f2 : FuncId} {p1 p2 : String} {s r cap : Nat} (u : Trace) (hu : u = #[{ g := i, fn := f1, pos := p1, act := .send c s }, { g := j, fn := f2, pos := p2, act := .recv c r cap }, { g := i, fn := f1, pos := p1, act := .sendDone c s }, { g := j, fn := f2, pos := p2, act := .recvDone c r }]) {B : Nat} (hc : c < B) :
    (∀ op ∈ u, op.act.touch? = none) ∧ (∀ g, ∀ op ∈ u, ∀ d, deafStep g d op = d) ∧ ∀ op ∈ u, op.act.low B := by
  subst hu
  refine ⟨fun op hop => ?_, fun g op hop d => ?_, fun op hop => ?_⟩ <;>
  · simp only [List.mem_toArray, List.mem_cons, List.not_mem_nil, or_false] at hop
    rcases hop with rfl | rfl | rfl | rfl <;> first | rfl | exact hc | trivial
theorem Opn.waits0 (h : Opn P S c z FinS FinR k w0 I vs O0 O1 x (some X) gs w t q) (ha : gs[0]? = some a) (hR : ∀ w1, Keep S O0 w w1 → RecvsO P S c z FinR vs O0 a w1) (sl : Option (Nat × Nat)) :
    ∃ gs' ops, runT P (crowd gs w sl) 0 = (.next (crowd gs' w sl), ops) ∧ Opn P S c z FinS FinR k w0 I vs O0 O1 none (some X) gs' w (t ++ ops) q ∧ gs'.size = gs.size := by
  obtain ⟨hst, es, hc1, he⟩ := (hR w ⟨fun _ _ _ => rfl, Nat.le_refl _⟩).comm
  obtain ⟨s, r, hc⟩ := h.chan
  obtain ⟨b, hb, hkid⟩ := h.kid
  have hbr : b.status ≠ .blocked := by rcases hkid.status with ⟨e, _⟩ | ⟨_, e⟩
                                       · rw [e]; simp
                                       · cases e
  have hlt : 0 < gs.size := (Array.getElem?_eq_some_iff.1 ha).1
  have hp : partners (gs.setIfInBounds 0 ph) c true = [] := partners_nil fun j g hj => by
    rcases getElem?_stand gs 0 j g hj with ⟨_, rfl⟩ | ⟨hj0, hg⟩
    · exact offersAt_ph _ _
    · by_cases hjk : j = k
      · subst hjk
        rw [hb] at hg
        obtain rfl := Option.some.inj hg
        exact offersAt_of_not_blocked hbr _ _
      · exact quits_silent (h.rest j g (by omega) hjk hg) _ _
  have hdq := evs_deaf he 0 a.frame.fn a.frame.place
  refine ⟨_, _, crowd_waits (i := 0) ha hc1 (fun cc hcc => ?_), ⟨h.k0, ⟨_, by rw [Array.getElem?_setIfInBounds_self_of_lt hlt], .inr ⟨rfl, a, rfl, hR⟩⟩, ⟨b, by rw [Array.getElem?_setIfInBounds_ne (fun e => h.k0 e.symm)]; exact hb, hkid⟩,
    rest_step h.rest hdq fun j x hj hjk hx => ⟨x, by rwa [Array.getElem?_setIfInBounds_ne (by omega)] at hx, .inl rfl⟩, fun j hj => ?_, .inr (by simp), ⟨s, r, hc⟩, h.mem, h.far, pt_evs0 h.pt h.k0 h.mem he _ _⟩, by simp⟩
  · simp only [List.mem_toArray, List.mem_cons, List.not_mem_nil, or_false] at hcc
    subst hcc
    exact ways_recv_none hc hp
  · rw [Deaf_quiet (hdq j)]
    exact h.above j (by simpa using hj)
theorem Opn.waitsK (h : Opn P S c z FinS FinR k w0 I (v :: vs) O0 O1 (some X) y gs w t q) (hb : gs[k]? = some b) (hS : ∀ w1, Keep S O1 w w1 → SendsO P S c FinS (v :: vs) O1 b w1) (sl : Option (Nat × Nat)) :
    ∃ gs' ops, runT P (crowd gs w sl) k = (.next (crowd gs' w sl), ops) ∧ Opn P S c z FinS FinR k w0 I (v :: vs) O0 O1 (some X) none gs' w (t ++ ops) q ∧ gs'.size = gs.size := by
  obtain ⟨hst, z', es, hc1, he, hnext⟩ := hS w ⟨fun _ _ _ => rfl, Nat.le_refl _⟩
  obtain ⟨s, r, hc⟩ := h.chan
  obtain ⟨a, ha, hzero⟩ := h.zero
  have har : a.status ≠ .blocked := by rcases hzero.status with ⟨e, _⟩ | ⟨_, e⟩
                                       · rw [e]; simp
                                       · cases e
  have hlt : k < gs.size := (Array.getElem?_eq_some_iff.1 hb).1
  have hk0 : (k == 0) = false := by simpa using h.k0
  have hp : partners (gs.setIfInBounds k ph) c false = [] := partners_nil fun j g hj => by
    rcases getElem?_stand gs k j g hj with ⟨_, rfl⟩ | ⟨hjk, hg⟩
    · exact offersAt_ph _ _
    · by_cases hj0 : j = 0
      · subst hj0
        rw [ha] at hg
        obtain rfl := Option.some.inj hg
        exact offersAt_of_not_blocked har _ _
      · exact quits_silent (h.rest j g (by omega) hjk hg) _ _
  have hdq := evs_deaf he k b.frame.fn b.frame.place
  refine ⟨_, _, crowd_waits (i := k) hb (by rw [hk0]; exact hc1) (fun cc hcc => ?_), ⟨h.k0, ⟨a, by rw [Array.getElem?_setIfInBounds_ne h.k0]; exact ha, hzero⟩, ⟨_, by rw [Array.getElem?_setIfInBounds_self_of_lt hlt], .inr ⟨rfl, b, v, vs, z', rfl, rfl, hnext⟩⟩,
    rest_step h.rest hdq fun j x hj hjk hx => ⟨x, by rwa [Array.getElem?_setIfInBounds_ne (fun e => hjk e.symm)] at hx, .inl rfl⟩, fun j hj => ?_, .inl (by simp), ⟨s, r, hc⟩, h.mem, h.far, pt_evsK h.pt h.k0 h.mem he _ _⟩, by simp⟩
  · simp only [List.mem_toArray, List.mem_cons, List.not_mem_nil, or_false] at hcc
    subst hcc
    exact ways_send_none hc (by simp) hp
  · rw [Deaf_quiet (hdq j)]
    exact h.above j (by simpa using hj)
theorem Opn.meets0 (h : Opn P S c z FinS FinR k w0 I vs O0 O1 x none gs w t q) (ha : gs[0]? = some a) (hR : ∀ w1, Keep S O0 w w1 → RecvsO P S c z FinR vs O0 a w1) (sl : Option (Nat × Nat)) :
    ∃ v vs', vs = v :: vs' ∧ ∃ gs' w' ops X' Y', runT P (crowd gs w sl) 0 = (.next (crowd gs' w' sl), ops) ∧ Opn P S c z FinS FinR k w0 I vs' O0 O1 (some X') (some Y') gs' w' (t ++ ops) q ∧ gs'.size = gs.size := by
  obtain ⟨s, r, hc⟩ := h.chan
  obtain ⟨b, hb, hkid⟩ := h.kid
  rcases hkid with ⟨_, e, _⟩ | ⟨_, g0, v, vs', z', rfl, rfl, hnS⟩
  · cases e
  refine ⟨v, vs', rfl, ?_⟩
  obtain ⟨hst, es, hc1, he, hnR⟩ := hR w ⟨fun _ _ _ => rfl, Nat.le_refl _⟩
  have hlt : 0 < gs.size := (Array.getElem?_eq_some_iff.1 ha).1
  have hltk : k < gs.size := (Array.getElem?_eq_some_iff.1 hb).1
  have hp : partners (gs.setIfInBounds 0 ph) c true = [(k, 0)] := by
    rw [partners_one (stand_get h.k0 hb) fun j g hjk hj => ?_, offersAt_parked_send, if_pos rfl]
    · rfl
    · rcases getElem?_stand gs 0 j g hj with ⟨_, rfl⟩ | ⟨hj0, hg⟩
      · exact offersAt_ph _ _
      · exact quits_silent (h.rest j g (by omega) hjk hg) _ _
  have hrun := crowd_recv_meets (P := P) (sl := sl) (i := 0) (j := k) ha hc1 hc h.k0 hb hp
  rw [finishComm_send, finishComm_recv] at hrun
  obtain ⟨u, hu⟩ : ∃ u : Trace, u = #[{ g := k, fn := (core g0).frame.fn, pos := (core g0).frame.place, act := .send c s }, { g := 0, fn := (core a).frame.fn, pos := (core a).frame.place, act := .recv c r 0 },
        { g := k, fn := (core g0).frame.fn, pos := (core g0).frame.place, act := .sendDone c s }, { g := 0, fn := (core a).frame.fn, pos := (core a).frame.place, act := .recvDone c r }] := ⟨_, rfl⟩
  rw [← hu] at hrun
  obtain ⟨m1, m2, m3⟩ := met4 u hu h.mem.lc
  have hdq := evs_deaf he 0 a.frame.fn a.frame.place
  have hdq2 : ∀ g, ∀ op ∈ MemOp.ofEvents 0 a.frame.fn a.frame.place es ++ u, ∀ d, deafStep g d op = d := fun g op hop d => (Array.mem_append.1 hop).elim (fun x => hdq g op x d) fun x => m2 g op x d
  have k0c := keep_chan (w := w) h.mem h.mem.c0 0 #[] false (s + 1) (r + 1) false
  have k1c := keep_chan (w := w) h.mem h.mem.c1 0 #[] false (s + 1) (r + 1) false
  refine ⟨_, _, _, ⟨O0, _, _⟩, ⟨O1, _, _⟩, hrun, ⟨h.k0, ⟨_, ?_, .inl ⟨_, rfl, hnR _ k0c, ⟨fun _ _ _ => rfl, Nat.le_refl _⟩⟩⟩, ⟨_, ?_, .inl ⟨_, rfl, hnS _ k1c, ⟨fun _ _ _ => rfl, Nat.le_refl _⟩⟩⟩,
    rest_step h.rest hdq2 fun j x hj hjk hx => ⟨x, ?_, .inl rfl⟩, fun j hj => ?_, .inl (by simp), ⟨s + 1, r + 1, heap_setChan h.mem.lc _ _ _ _ _ _⟩, by rw [size_setChan]; exact h.mem, since_chan h.far _ _ _ _ _ _, ?_⟩, by simp⟩
  · rw [Array.getElem?_setIfInBounds_self_of_lt (by simpa using hlt)]
    rfl
  · rw [Array.getElem?_setIfInBounds_ne (fun e => h.k0 e.symm), Array.getElem?_setIfInBounds_self_of_lt hltk]
  · rwa [Array.getElem?_setIfInBounds_ne (by omega), Array.getElem?_setIfInBounds_ne (fun e => hjk e.symm)] at hx
  · rw [Deaf_quiet (hdq2 j)]
    exact h.above j (by simpa using hj)
  · rw [size_setChan, ← Array.append_assoc]
    exact (pt_evs0 h.pt h.k0 h.mem he _ _).mute m1 (fun g _ => Deaf_quiet (m2 g)) m3
theorem Opn.meetsK (h : Opn P S c z FinS FinR k w0 I (v :: vs) O0 O1 none y gs w t q) (hb : gs[k]? = some b) (hS : ∀ w1, Keep S O1 w w1 → SendsO P S c FinS (v :: vs) O1 b w1) (sl : Option (Nat × Nat)) :
    ∃ gs' w' ops X' Y', runT P (crowd gs w sl) k = (.next (crowd gs' w' sl), ops) ∧ Opn P S c z FinS FinR k w0 I vs O0 O1 (some X') (some Y') gs' w' (t ++ ops) q ∧ gs'.size = gs.size := by
  obtain ⟨s, r, hc⟩ := h.chan
  obtain ⟨a, ha, hzero⟩ := h.zero
  rcases hzero with ⟨_, e, _⟩ | ⟨_, g0, rfl, hnR⟩
  · cases e
  obtain ⟨hst, z', es, hc1, he, hnS⟩ := hS w ⟨fun _ _ _ => rfl, Nat.le_refl _⟩
  obtain ⟨_, es0, _, _, hnR2⟩ := hnR w ⟨fun _ _ _ => rfl, Nat.le_refl _⟩
  have hlt : 0 < gs.size := (Array.getElem?_eq_some_iff.1 ha).1
  have hltk : k < gs.size := (Array.getElem?_eq_some_iff.1 hb).1
  have hk0 : (k == 0) = false := by simpa using h.k0
  have hp : partners (gs.setIfInBounds k ph) c false = [(0, 0)] := by
    rw [partners_one (stand_get (fun e => h.k0 e.symm) ha) fun j g hj0 hj => ?_, offersAt_parked_recv, if_pos rfl]
    · rfl
    · rcases getElem?_stand gs k j g hj with ⟨_, rfl⟩ | ⟨hjk, hg⟩
      · exact offersAt_ph _ _
      · exact quits_silent (h.rest j g (by omega) hjk hg) _ _
  have hrun := crowd_send_meets (P := P) (sl := sl) (i := k) (j := 0) hb (by rw [hk0]; exact hc1) hc (fun e => h.k0 e.symm) ha hp
  rw [finishComm_send, finishComm_recv] at hrun
  obtain ⟨u, hu⟩ : ∃ u : Trace, u = #[{ g := k, fn := (core b).frame.fn, pos := (core b).frame.place, act := .send c s }, { g := 0, fn := (core g0).frame.fn, pos := (core g0).frame.place, act := .recv c r 0 },
        { g := k, fn := (core b).frame.fn, pos := (core b).frame.place, act := .sendDone c s }, { g := 0, fn := (core g0).frame.fn, pos := (core g0).frame.place, act := .recvDone c r }] := ⟨_, rfl⟩
  rw [← hu] at hrun
  obtain ⟨m1, m2, m3⟩ := met4 u hu h.mem.lc
  have hdq := evs_deaf he k b.frame.fn b.frame.place
  have hdq2 : ∀ g, ∀ op ∈ MemOp.ofEvents k b.frame.fn b.frame.place es ++ u, ∀ d, deafStep g d op = d := fun g op hop d => (Array.mem_append.1 hop).elim (fun x => hdq g op x d) fun x => m2 g op x d
  have k0c := keep_chan (w := w) h.mem h.mem.c0 0 #[] false (s + 1) (r + 1) false
  have k1c := keep_chan (w := w) h.mem h.mem.c1 0 #[] false (s + 1) (r + 1) false
  refine ⟨_, _, _, ⟨O0, _, _⟩, ⟨O1, _, _⟩, hrun, ⟨h.k0, ⟨_, ?_, .inl ⟨_, rfl, hnR2 _ k0c, ⟨fun _ _ _ => rfl, Nat.le_refl _⟩⟩⟩, ⟨_, by rw [Array.getElem?_setIfInBounds_self_of_lt (by simpa using hltk)], .inl ⟨_, rfl, hnS _ k1c, ⟨fun _ _ _ => rfl, Nat.le_refl _⟩⟩⟩,
    rest_step h.rest hdq2 fun j x hj hjk hx => ⟨x, ?_, .inl rfl⟩, fun j hj => ?_, .inl (by simp), ⟨s + 1, r + 1, heap_setChan h.mem.lc _ _ _ _ _ _⟩, by rw [size_setChan]; exact h.mem, since_chan h.far _ _ _ _ _ _, ?_⟩, by simp⟩
  · rw [Array.getElem?_setIfInBounds_ne h.k0, Array.getElem?_setIfInBounds_self_of_lt hlt]
    rfl
  · rwa [Array.getElem?_setIfInBounds_ne (fun e => hjk e.symm), Array.getElem?_setIfInBounds_ne (by omega)] at hx
  · rw [Deaf_quiet (hdq2 j)]
    exact h.above j (by simpa using hj)
  · rw [size_setChan, ← Array.append_assoc]
    exact (pt_evsK h.pt h.k0 h.mem he _ _).mute m1 (fun g _ => Deaf_quiet (m2 g)) m3
end
end Go.Proofs.Ytndncmjhpbjcoaa

/- A leaver's step while the pipe is open; the close; from the close to the receive that finds it. -/
namespace Go.Proofs.Ytndncmjhpbjcoaa
open Go Go.Conc Go.ConcN

section
variable {P : Program} {S : Nat → Prop} {c : Nat} {z : Value} {FinS : (Nat → Prop) → World → Prop} {FinR : (Nat → Prop) → Goroutine → World → Prop} {k : Nat} {w0 : World} {I : Nat → Prop}
variable {vs : List Value} {O O0 O1 : Nat → Prop} {x y : Option CoS} {X : CoS} {gs gs' : Array Goroutine} {a b g : Goroutine} {w w1 : World} {t u : Trace} {q : Nat → Nat} {v : Value} {i : Nat}
theorem leaver_step {F : Nat → Prop} (hr : ∀ j x, 0 < j → ¬ F j → gs[j]? = some x → QuitsD P (q j) (Deaf t j) x) (hF : ∀ j x, j = 0 ∨ F j → gs[j]? = some x → ∀ g g', woken P g g' w x = x) (hab : ∀ j, gs.size ≤ j → Deaf t j = 0) (hi : gs[i]? = some g) (hg : g.status = .running) (h0 : 0 < i) (hnF : ¬ F i) (sl : Option (Nat × Nat)) :
    ∃ gs' es fn pos q', runT P (crowd gs w sl) i = (.next (crowd gs' w sl), MemOp.ofEvents i fn pos es) ∧ (∀ e ∈ es, e.mute = true) ∧ (∀ j x, 0 < j → ¬ F j → gs'[j]? = some x → QuitsD P (q' j) (Deaf (t ++ MemOp.ofEvents i fn pos es) j) x) ∧ (∀ j, j = 0 ∨ F j → gs'[j]? = gs[j]?) ∧
      (∀ j, gs.size ≤ j → Deaf (t ++ MemOp.ofEvents i fn pos es) j = 0) ∧ gs'.size = gs.size ∧ sumTo gs.size q' < sumTo gs.size q := by
  have hq := hr i g h0 hnF hi
  have hi0 : (i == 0) = false := by simp; omega
  have hlt : i < gs.size := (Array.getElem?_eq_some_iff.1 hi).1
  cases hqi : q i with
  | zero => rw [hqi] at hq; rw [hq.1] at hg; cases hg
  | succ kk =>
    rw [hqi] at hq
    rcases hq with ⟨hf, _⟩ | ⟨_, g', es, hm, hstp, hq'⟩
    · rw [hf] at hg; cases hg
    have hrunT := runT_crowd_go (P := P) (sl := sl) (i := i) hi (by rw [hi0]; exact hstp w)
    have hsum : sumTo gs.size (upd q i kk) + (kk + 1) = sumTo gs.size q + kk := by
      have := sumTo_upd q kk id hlt
      simpa [hqi] using this
    refine ⟨_, es, _, _, upd q i kk, hrunT, hm, fun j x hj hnj hx => ?_, fun j hj => ?_, fun j hj => ?_, by simp, by omega⟩
    · by_cases hji : i = j
      · subst hji
        rw [Array.getElem?_setIfInBounds_self_of_lt (by simpa using hlt)] at hx
        obtain rfl := Option.some.inj hx
        rw [upd_same, Deaf_own]
        exact hq'
      · rw [Array.getElem?_setIfInBounds_ne hji, Array.getElem?_map] at hx
        obtain ⟨y, hy, rfl⟩ := Option.map_eq_some_iff.1 hx
        have hqj := hr j y hj hnj hy
        rw [woken_quitsD hqj, upd_ne q kk (Ne.symm hji), Deaf_other t hji _ (fun op hop => by obtain ⟨e, _, rfl⟩ := Conc.mem_ofEvents hop; rfl)]
        exact hqj
    · have hji : i ≠ j := by
        rintro rfl
        rcases hj with rfl | hj
        · omega
        · exact hnF hj
      rw [Array.getElem?_setIfInBounds_ne hji, Array.getElem?_map]
      cases hy : gs[j]? with
      | none => rfl
      | some y => rw [Option.map_some, hF j y hj hy]
    · rw [Deaf_other t (g' := i) (by omega) _ (fun op hop => by obtain ⟨e, _, rfl⟩ := Conc.mem_ofEvents hop; rfl)]
      exact hab j hj
theorem pt_leaver {O Rd : Loc → Prop} {B : Nat} (h : PT k O Rd B t) (hi0 : i ≠ 0) (hik : i ≠ k) {es : Array Event} (hm : ∀ e ∈ es, e.mute = true) (fn : FuncId) (pos : String) : PT k O Rd B (t ++ MemOp.ofEvents i fn pos es) := by
  refine h.mute (fun op hop => by obtain ⟨e, he, rfl⟩ := Conc.mem_ofEvents hop; exact touch_mute (hm e he)) (fun g hg => Deaf_other t (g' := i) ?_ _ fun op hop => by obtain ⟨e, _, rfl⟩ := Conc.mem_ofEvents hop; rfl) fun op hop => by obtain ⟨e, he, rfl⟩ := Conc.mem_ofEvents hop; exact low_mute (hm e he) B
  rcases hg with rfl | rfl
  · exact hi0
  · exact hik
theorem Opn.slip (h : Opn P S c z FinS FinR k w0 I vs O0 O1 x y gs w t q) (hi : gs[i]? = some g) (hg : g.status = .running) (h0 : 0 < i) (hik : i ≠ k) (sl : Option (Nat × Nat)) :
    ∃ gs' ops q', runT P (crowd gs w sl) i = (.next (crowd gs' w sl), ops) ∧ Opn P S c z FinS FinR k w0 I vs O0 O1 x y gs' w (t ++ ops) q' ∧ gs'.size = gs.size ∧ sumTo gs.size q' < sumTo gs.size q := by
  obtain ⟨a, ha, hzero⟩ := h.zero
  obtain ⟨b, hb, hkid⟩ := h.kid
  obtain ⟨s, r, hc⟩ := h.chan
  obtain ⟨gs', es, fn, pos, q', r1, r2, r3, r4, r5, r6, r7⟩ := leaver_step (F := fun j => j = k) h.rest (fun j x hj hx g g' => by
    rcases hj with e | e
    · rw [e, ha] at hx
      obtain rfl := Option.some.inj hx
      exact hzero.woken hc
    · rw [show j = k from e, hb] at hx
      obtain rfl := Option.some.inj hx
      exact hkid.woken hc) h.above hi hg h0 hik sl
  exact ⟨gs', _, q', r1, ⟨h.k0, ⟨a, (r4 0 (.inl rfl)).trans ha, hzero⟩, ⟨b, (r4 k (.inr rfl)).trans hb, hkid⟩, r3, fun j hj => r5 j (by rw [r6] at hj; exact hj), h.some1, h.chan, h.mem, h.far, pt_leaver h.pt (by omega) hik r2 fn pos⟩, r6, r7⟩
end
section
variable (P : Program) (S : Nat → Prop) (c : Nat) (z : Value) (FinS : (Nat → Prop) → World → Prop) (FinR : (Nat → Prop) → Goroutine → World → Prop) (k m : Nat) (w0 : World) (I : Nat → Prop)
structure Cls (O0 O1 : Nat → Prop) (X : CoS) (gs : Array Goroutine) (w : World) (t : Trace) (q : Nat → Nat) : Prop where
  k0 : k ≠ 0
  zero : ∃ a, gs[0]? = some a ∧ SitR P S c z FinR [] O0 (some X) a w
  leave : Leavers P t gs q
  chan : ∃ s r, w.heap[c]? = some (.chan 0 #[] true s r false)
  mem : Parts S O0 O1 c w.heap.size
  far : Since w0 I O0 O1 c w
  fin : FinS O1 w
  pt : PTD k c m (OL O1) (RdL S c) w.heap.size t
end
section
variable {P : Program} {S : Nat → Prop} {c : Nat} {z : Value} {FinS : (Nat → Prop) → World → Prop} {FinR : (Nat → Prop) → Goroutine → World → Prop} {k m : Nat} {w0 : World} {I : Nat → Prop}
variable {vs : List Value} {O O0 O1 : Nat → Prop} {x y : Option CoS} {X : CoS} {gs gs' : Array Goroutine} {a b g : Goroutine} {w w1 : World} {t u : Trace} {q : Nat → Nat} {v : Value} {i : Nat}
theorem RecvsO.again {cs : Array CommCase} {sh : CommShape} (h : RecvsO P S c z FinR vs O (g) w) : RecvsO P S c z FinR vs O { parked (core g) cs sh with status := .running } w := by
  have e : stepG P true { parked (core g) cs sh with status := .running } w = stepG P true g w := stepG_same rfl rfl rfl w
  cases vs with
  | nil => exact let ⟨_, es, h1, h2, h3⟩ := h; ⟨rfl, es, by rw [e]; exact h1, h2, h3⟩
  | cons v vs => exact let ⟨_, es, h1, h2, h3⟩ := h; ⟨rfl, es, by rw [e]; exact h1, h2, h3⟩
theorem Opn.close (hFin : ∀ O w w1, Keep S O w w1 → FinS O w → FinS O w1) (h : Opn P S c z FinS FinR k w0 I [] O0 O1 x y gs w t q) (hb : gs[k]? = some b) (hS : ∀ w1, Keep S O1 w w1 → SendsO P S c FinS [] O1 b w1) (sl : Option (Nat × Nat)) :
    ∃ gs' w' ops X' m q', runT P (crowd gs w sl) k = (.next (crowd gs' w' sl), ops) ∧ Cls P S c z FinS FinR k m w0 I O0 O1 X' gs' w' (t ++ ops) q' ∧ gs'.size = gs.size := by
  obtain ⟨s, r, hc⟩ := h.chan
  obtain ⟨a, ha, hzero⟩ := h.zero
  obtain ⟨hbr, hmw, hfin, g', n, hq, hgr, hstp⟩ := hS w ⟨fun _ _ _ => rfl, Nat.le_refl _⟩
  have hk0 : (k == 0) = false := by simpa using h.k0
  have hltk : k < gs.size := (Array.getElem?_eq_some_iff.1 hb).1
  have hrun := runT_crowd_go (P := P) (sl := sl) (i := k) hb (by rw [hk0]; exact hstp s r hc)
  rw [closeOps] at hrun
  have k0c := keep_chan (w := w) h.mem h.mem.c0 0 #[] true s r false
  have k1c := keep_chan (w := w) h.mem h.mem.c1 0 #[] true s r false
  obtain ⟨u, hu⟩ : ∃ u : Trace, u = #[{ g := k, fn := b.frame.fn, pos := b.frame.place, act := .access ⟨.obj c, false, true⟩ }, { g := k, fn := b.frame.fn, pos := b.frame.place, act := .close c }] := ⟨_, rfl⟩
  rw [← hu] at hrun
  have hdq : ∀ g, ∀ op ∈ u, ∀ d, deafStep g d op = d := by
    intro g op hop d
    subst hu
    simp only [List.mem_toArray, List.mem_cons, List.not_mem_nil, or_false] at hop
    rcases hop with rfl | rfl <;> rfl
  have hug : ∀ op ∈ u, op.g = k := by
    intro op hop
    subst hu
    simp only [List.mem_toArray, List.mem_cons, List.not_mem_nil, or_false] at hop
    rcases hop with rfl | rfl <;> rfl
  have hpt : PT k (OL O1) (RdL S c) w.heap.size (t ++ u) := h.pt.appK h.k0 hug (fun op hop tc ht => by
      subst hu
      simp only [List.mem_toArray, List.mem_cons, List.not_mem_nil, or_false] at hop
      rcases hop with rfl | rfl
      · simp only [MemAct.touch?, Option.some.injEq] at ht
        subst ht
        exact .inr ⟨.inr rfl, rfl⟩
      · simp [MemAct.touch?] at ht) (Deaf_quiet (hdq k)) fun op hop => by
      subst hu
      simp only [List.mem_toArray, List.mem_cons, List.not_mem_nil, or_false] at hop
      rcases hop with rfl | rfl <;> exact h.mem.lc
  have em : (t ++ u)[t.size + 1]? = some { g := k, fn := b.frame.fn, pos := b.frame.place, act := .close c } := by subst hu; rw [at_new]; rfl
  have esz : (t ++ u).size = t.size + 2 := by subst hu; simp
  have hwk : ∃ X a', (woken P b g' (w.setChan c 0 #[] true s r false) a) = a' ∧ SitR P S c z FinR [] O0 (some X) a' (w.setChan c 0 #[] true s r false) := by
    rcases hzero with ⟨W, e, hco, hkp⟩ | ⟨e, g0, rfl, hst⟩
    · exact ⟨⟨O0, a, W⟩, a, woken_running2 (hco.running fun _ _ _ => RecvsO.running), .inl ⟨W, rfl, hco, hkp.trans k0c⟩⟩
    · refine ⟨⟨O0, { parked (core g0) #[rcase c z] (.recv true) with status := .running }, w.setChan c 0 #[] true s r false⟩, _, rfl, .inl ⟨_, ?_, ?_, ⟨fun _ _ _ => rfl, Nat.le_refl _⟩⟩⟩
      · have : woken P b g' (w.setChan c 0 #[] true s r false) (parked (core g0) #[rcase c z] (.recv true)) = { parked (core g0) #[rcase c z] (.recv true) with status := .running } := by
          unfold woken
          rw [if_pos (by rw [hmw, hgr]; rfl)]
          exact again_recv_closed (heap_setChan h.mem.lc _ _ _ _ _ _)
        rw [this]
      · have : woken P b g' (w.setChan c 0 #[] true s r false) (parked (core g0) #[rcase c z] (.recv true)) = { parked (core g0) #[rcase c z] (.recv true) with status := .running } := by
          unfold woken
          rw [if_pos (by rw [hmw, hgr]; rfl)]
          exact again_recv_closed (heap_setChan h.mem.lc _ _ _ _ _ _)
        rw [this]
        exact .stop fun w1 kw => (hst w1 (k0c.trans kw)).again
  obtain ⟨X', a', ha', hsit⟩ := hwk
  refine ⟨_, _, _, X', t.size + 1, upd q k n, hrun, ⟨h.k0, ⟨a', ?_, hsit⟩, ⟨fun j x hj hx => ?_, fun j hj => ?_⟩, ⟨s, r, heap_setChan h.mem.lc _ _ _ _ _ _⟩, by rw [size_setChan]; exact h.mem, since_chan h.far _ _ _ _ _ _, hFin _ _ _ k1c hfin, PTC.toD ⟨by rw [size_setChan]; exact hpt, by rw [act?_of em], by rw [g?_of em], ⟨k, g?_of em, ?_⟩, fun j z hz hg hj => ?_⟩⟩, by simp⟩
  · rw [Array.getElem?_setIfInBounds_ne h.k0, Array.getElem?_map, ha, Option.map_some, ha']
  · rw [Deaf_quiet (hdq j)]
    by_cases hjk : k = j
    · subst hjk
      rw [Array.getElem?_setIfInBounds_self_of_lt (by simpa using hltk)] at hx
      obtain rfl := Option.some.inj hx
      rw [upd_same, h.pt.hearsK]
      exact hq
    · rw [Array.getElem?_setIfInBounds_ne hjk, Array.getElem?_map] at hx
      obtain ⟨y, hy, rfl⟩ := Option.map_eq_some_iff.1 hx
      have hqj := h.rest j y hj (fun e => hjk e.symm) hy
      rw [woken_quitsD hqj, upd_ne q n (Ne.symm hjk)]
      exact hqj
  · rw [Deaf_quiet (hdq j)]
    exact h.above j (by simpa using hj)
  · have h1 : (t ++ u).deaf k (t.size + 1) = Deaf t k := deaf_quiet (hdq k) 1 (by subst hu; simp)
    rw [h1]; exact h.pt.hearsK
  · have := lt_size_of_getElem? hz
    omega
end
end Go.Proofs.Ytndncmjhpbjcoaa

/- From the close to the receive that finds it; the pipe's phase, whole. -/
namespace Go.Proofs.Ytndncmjhpbjcoaa
open Go Go.Conc Go.ConcN

structure Piped (P : Program) (S : Nat → Prop) (c : Nat) (FinS : (Nat → Prop) → World → Prop) (FinR : (Nat → Prop) → Goroutine → World → Prop) (w0 : World) (I : Nat → Prop) (gs : Array Goroutine) (w : World) (t : Trace) (q : Nat → Nat) (O0 O1 : Nat → Prop) (g : Goroutine) : Prop where
  zero : gs[0]? = some g
  leave : Leavers P t gs q
  past : Past (fun _ => False) w.heap.size t
  mem : Parts S O0 O1 c w.heap.size
  far : Since w0 I O0 O1 c w
  finS : FinS O1 w
  finR : FinR O0 g w
section
variable {P : Program} {S : Nat → Prop} {c : Nat} {z : Value} {FinS : (Nat → Prop) → World → Prop} {FinR : (Nat → Prop) → Goroutine → World → Prop} {k m : Nat} {w0 : World} {I : Nat → Prop}
variable {vs : List Value} {O O0 O1 : Nat → Prop} {x y : Option CoS} {X : CoS} {gs gs' : Array Goroutine} {a b g : Goroutine} {w w1 : World} {t u : Trace} {q : Nat → Nat} {v : Value} {i : Nat}
theorem Cls.at (hFin : ∀ O w w1, Keep S O w w1 → FinS O w → FinS O w1) (h : Cls P S c z FinS FinR k m w0 I O0 O1 X gs w t q) (d : Nat) : Cls P S c z FinS FinR k m w0 I O0 O1 X gs (w.at d) t q := by
  obtain ⟨a, ha, hs⟩ := h.zero
  exact ⟨h.k0, ⟨a, ha, hs.rely (keep_at _ _ _ _)⟩, h.leave, h.chan, h.mem, ⟨h.far.tape, h.far.os, h.far.out, h.far.size, h.far.block, h.far.o0, h.far.o1⟩, hFin _ _ _ (keep_at _ _ _ _) h.fin, h.pt⟩
theorem Cls.own0 (hFin : ∀ O w w1, Keep S O w w1 → FinS O w → FinS O w1) (h : Cls P S c z FinS FinR k m w0 I O0 O1 X gs w t q) (sl : Option (Nat × Nat)) : (∃ a, gs[0]? = some a ∧ ∀ w1, Keep S O0 w w1 → RecvsO P S c z FinR [] O0 a w1) ∨
    ∃ gs' w' ops X', runT P (crowd gs w sl) 0 = (.next (crowd gs' w' sl), ops) ∧ NxC P true S (RecvsO P S c z FinR []) X' X ∧ Cls P S c z FinS FinR k m w0 I X'.O O1 X' gs' w' (t ++ ops) q ∧ gs'.size = gs.size := by
  obtain ⟨a, ha, hs⟩ := h.zero
  rcases hs with ⟨W, e, hco, hkp⟩ | ⟨e, _⟩
  rotate_left
  · cases e
  obtain rfl := Option.some.inj e
  rcases hco.now2 hkp with hst | ⟨hr, a', w2, es, h1, h2, h3, h4⟩
  · exact .inl ⟨a, ha, fun w1 k1 => hst w1 (hkp.trans k1)⟩
  refine .inr ⟨_, w2, _, ⟨grow O0 w w2, a', w2⟩, runT_crowd_go ha h1, h4, ?_, by simp⟩
  have hlt : 0 < gs.size := (Array.getElem?_eq_some_iff.1 ha).1
  obtain ⟨s, r, hc⟩ := h.chan
  have hc2 : w2.heap[c]? = some (.chan 0 #[] true s r false) := by rw [h2.block c h.mem.lc h.mem.c0]; exact hc
  have hP := h.mem.grow0 h2.size
  have hk1 : Keep S O1 w w2 := ⟨fun b hb hx => h2.block b hb fun e => hx.elim (fun q => h.mem.S0 b q e) fun q => h.mem.d b e q, h2.size⟩
  have hdq := evs_deaf h2.evs 0 a.frame.fn a.frame.place
  refine ⟨h.k0, ⟨a', by rw [Array.getElem?_setIfInBounds_self_of_lt (by simpa using hlt)], .inl ⟨w2, rfl, h3, ⟨fun _ _ _ => rfl, Nat.le_refl _⟩⟩⟩, ⟨fun j x hj hx => ?_, fun j hj => ?_⟩, ⟨s, r, hc2⟩, hP, ?_, hFin _ _ _ hk1 h.fin, ?_⟩
  · rw [Array.getElem?_setIfInBounds_ne (by omega), Array.getElem?_map] at hx
    obtain ⟨y, hy, rfl⟩ := Option.map_eq_some_iff.1 hx
    have := h.leave.old j y hj hy
    rw [Deaf_quiet (hdq j), woken_quitsD this]
    exact this
  · rw [Deaf_quiet (hdq j)]
    exact h.leave.above j (by simpa using hj)
  · refine ⟨h2.tape.trans h.far.tape, h2.os.trans h.far.os, h2.output.trans h.far.out, Nat.le_trans h.far.size h2.size, fun b hb hI hbc => ?_, fun b hb hlt => ?_, h.far.o1⟩
    · rw [h2.block b (by have := h.far.size; omega) fun e => hI (h.far.o0 b e hb)]
      exact h.far.block b hb hI hbc
    · rcases hb with hb | hb
      · exact h.far.o0 b hb hlt
      · have := h.far.size; omega
  · refine (h.pt.mono h2.size).app0 h.k0 (fun op hop => by obtain ⟨e, _, rfl⟩ := Conc.mem_ofEvents hop; rfl) (fun op hop tc ht => ?_) (Deaf_quiet (hdq 0)) fun op hop => ?_
    · obtain ⟨e, he, rfl⟩ := Conc.mem_ofEvents hop
      rcases evO_touch (h2.evs e he) ht with x | ⟨x, x2⟩
      · exact ⟨ol_apart hP.d x, fun hS => absurd x (rdl_apart hP.S0 hP.c0 hS)⟩
      · exact ⟨ol_apart hP.S1 x, fun _ => x2⟩
    · obtain ⟨e, he, rfl⟩ := Conc.mem_ofEvents hop
      exact evO_low (h2.evs e he) hP.lS hP.l0
theorem Cls.slip (h : Cls P S c z FinS FinR k m w0 I O0 O1 X gs w t q) (hi : gs[i]? = some g) (hg : g.status = .running) (h0 : 0 < i) (sl : Option (Nat × Nat)) :
    ∃ gs' ops q', runT P (crowd gs w sl) i = (.next (crowd gs' w sl), ops) ∧ Cls P S c z FinS FinR k m w0 I O0 O1 X gs' w (t ++ ops) q' ∧ gs'.size = gs.size ∧ sumTo gs.size q' < sumTo gs.size q := by
  obtain ⟨a, ha, hzero⟩ := h.zero
  have har : a.status = .running := hzero.status.elim (fun x => x.1) fun x => by cases x.2
  obtain ⟨gs', es, fn, pos, q', r1, r2, r3, r4, r5, r6, r7⟩ := leaver_step (w := w) (F := fun _ => False) (fun j x hj _ hx => h.leave.old j x hj hx) (fun j x hj hx g g' => by
    rcases hj with e | e
    · rw [e, ha] at hx
      obtain rfl := Option.some.inj hx
      exact woken_running2 har
    · exact e.elim) h.leave.above hi hg h0 (fun e => e) sl
  exact ⟨gs', _, q', r1, ⟨h.k0, ⟨a, (r4 0 (.inl rfl)).trans ha, hzero⟩, ⟨fun j x hj hx => r3 j x hj (fun e => e) hx, fun j hj => r5 j (by rw [r6] at hj; exact hj)⟩, h.chan, h.mem, h.far, h.fin,
    h.pt.mute (fun op hop => by obtain ⟨e, he, rfl⟩ := Conc.mem_ofEvents hop; exact touch_mute (r2 e he)) (Deaf_other t (g' := i) (by omega) _ fun op hop => by obtain ⟨e, _, rfl⟩ := Conc.mem_ofEvents hop; rfl) fun op hop => by obtain ⟨e, he, rfl⟩ := Conc.mem_ofEvents hop; exact low_mute (r2 e he) _⟩, r6, r7⟩
theorem Cls.last (h : Cls P S c z FinS FinR k m w0 I O0 O1 X gs w t q) (ha : gs[0]? = some a) (hR : ∀ w1, Keep S O0 w w1 → RecvsO P S c z FinR [] O0 a w1) (sl : Option (Nat × Nat)) :
    ∃ gs' ops g, runT P (crowd gs w sl) 0 = (.next (crowd gs' w sl), ops) ∧ Piped P S c FinS FinR w0 I gs' w (t ++ ops) q O0 O1 g := by
  obtain ⟨hst, es, hc1, he, hnR⟩ := hR w ⟨fun _ _ _ => rfl, Nat.le_refl _⟩
  obtain ⟨s, r, hc⟩ := h.chan
  have hlt : 0 < gs.size := (Array.getElem?_eq_some_iff.1 ha).1
  have hp : partners (gs.setIfInBounds 0 ph) c true = [] := partners_nil fun j g hj => by
    rcases getElem?_stand gs 0 j g hj with ⟨_, rfl⟩ | ⟨hj0, hg⟩
    · exact offersAt_ph _ _
    · exact quits_silent (h.leave.old j g (by omega) hg) _ _
  have hrun := crowd_recv_closed (P := P) (sl := sl) (i := 0) ha hc1 hc hp
  rw [finishComm_recv] at hrun
  have hdq := evs_deaf he 0 a.frame.fn a.frame.place
  obtain ⟨u, hu⟩ : ∃ u : Trace, u = #[{ g := 0, fn := (core a).frame.fn, pos := (core a).frame.place, act := .recvClosed c }] := ⟨_, rfl⟩
  rw [← hu] at hrun
  have hdq2 : ∀ g, ∀ op ∈ MemOp.ofEvents 0 a.frame.fn a.frame.place es ++ u, ∀ d, deafStep g d op = d := fun g op hop d => (Array.mem_append.1 hop).elim (fun x => hdq g op x d) fun x => by
    subst hu
    simp only [List.mem_toArray, List.mem_cons, List.not_mem_nil, or_false] at x
    subst x; rfl
  refine ⟨_, _, _, hrun, ⟨by rw [Array.getElem?_setIfInBounds_self_of_lt hlt]; rfl, ⟨fun j x hj hx => ?_, fun j hj => ?_⟩, ?_, h.mem, h.far, h.fin, hnR w ⟨fun _ _ _ => rfl, Nat.le_refl _⟩⟩⟩
  · rw [Array.getElem?_setIfInBounds_ne (by omega)] at hx
    rw [Deaf_quiet (hdq2 j)]
    exact h.leave.old j x hj hx
  · rw [Deaf_quiet (hdq2 j)]
    exact h.leave.above j (by simpa using hj)
  · rw [← Array.append_assoc, hu]
    refine PTD.take (h.pt.app0 h.k0 (fun op hop => by obtain ⟨e, _, rfl⟩ := Conc.mem_ofEvents hop; rfl) (fun op hop tc ht => ?_) (Deaf_quiet (hdq 0)) fun op hop => ?_) _ _ h.mem.lc
    · obtain ⟨e, hin, rfl⟩ := Conc.mem_ofEvents hop
      rcases evO_touch (he e hin) ht with x | ⟨x, x2⟩
      · exact ⟨ol_apart h.mem.d x, fun hS => absurd x (rdl_apart h.mem.S0 h.mem.c0 hS)⟩
      · exact ⟨ol_apart h.mem.S1 x, fun _ => x2⟩
    · obtain ⟨e, hin, rfl⟩ := Conc.mem_ofEvents hop
      exact evO_low (he e hin) h.mem.lS h.mem.l0
theorem Cls.run (hFin : ∀ O w w1, Keep S O w w1 → FinS O w → FinS O w1) : ∀ X, Acc (NxC P true S (RecvsO P S c z FinR [])) X → ∀ (M : Nat) (O0 : Nat → Prop) (gs : Array Goroutine) (w : World) (t : Trace) (q : Nat → Nat) (sl : Option (Nat × Nat)), sumTo gs.size q ≤ M → Cls P S c z FinS FinR k m w0 I O0 O1 X gs w t q →
    ∃ N gs' w' sl' t' q' O0' O1' g, runNT P N (crowd gs w sl) t = (.next (crowd gs' w' sl'), t') ∧ Piped P S c FinS FinR w0 I gs' w' t' q' O0' O1' g := by
  intro X hX
  induction hX with
  | intro X _ ih =>
    intro M
    induction M using Nat.strongRecOn with
    | _ M ihM =>
      intro O0 gs w t q sl hM h
      obtain ⟨a, ha, hzero⟩ := h.zero
      have har : a.status = .running := hzero.status.elim (fun x => x.1) fun x => by cases x.2
      have hrun : ∀ g ∈ gs, awake g := by
        intro g hg
        obtain ⟨i, hi, rfl⟩ := Array.mem_iff_getElem.1 hg
        rcases Nat.eq_zero_or_pos i with rfl | hpos
        · have : gs[0] = a := by simpa [Array.getElem?_eq_getElem hi] using ha
          rw [this]; exact awake_of (.inl har)
        · exact awake_of ((h.leave.old i _ hpos (Array.getElem?_eq_getElem hi)).status.elim .inl fun x => .inr (.inr x))
      obtain ⟨i, g, d, sl', hi, hg, hst⟩ := crowd_pick (P := P) (w := w) (sl := sl) hrun ⟨0, a, ha, har⟩
      have hd := h.at hFin d
      rcases Nat.eq_zero_or_pos i with rfl | hpos
      · rcases hd.own0 hFin sl' with ⟨a2, ha2, hR⟩ | ⟨gs2, w2, ops, X2, r1, r2, r3, r4⟩
        · obtain ⟨gs2, ops, g2, r1, r2⟩ := hd.last ha2 hR sl'
          exact ⟨1, gs2, _, sl', _, q, O0, O1, g2, by simp only [runNT, hst, r1], r2⟩
        · obtain ⟨N, gs3, w3, sl3, t3, q3, A, B, g3, e1, e2⟩ := ih X2 r2 _ X2.O gs2 w2 (t ++ ops) q sl' (Nat.le_refl _) r3
          exact ⟨N + 1, gs3, w3, sl3, t3, q3, A, B, g3, by simp only [runNT, hst, r1]; exact e1, e2⟩
      · obtain ⟨gs2, ops, q2, r1, r2, r3, r4⟩ := hd.slip hi hg hpos sl'
        obtain ⟨N, gs3, w3, sl3, t3, q3, A, B, g3, e1, e2⟩ := ihM (sumTo gs2.size q2) (by rw [r3]; omega) O0 gs2 _ (t ++ ops) q2 sl' (Nat.le_refl _) r2
        exact ⟨N + 1, gs3, w3, sl3, t3, q3, A, B, g3, by simp only [runNT, hst, r1]; exact e1, e2⟩
end
end Go.Proofs.Ytndncmjhpbjcoaa

/- THE PIPE'S PHASE: from the go statement on, whatever the schedule, the machine comes to where the receiver has found the channel closed, and the sender only leaves. -/
namespace Go.Proofs.Ytndncmjhpbjcoaa
open Go Go.Conc Go.ConcN

def OpL (r : CoS → CoS → Prop) : Option CoS → Option CoS → Prop
  | none, some _ => True
  | some b, some a => r b a
  | _, none => False
theorem acc_none (r : CoS → CoS → Prop) : Acc (OpL r) none := Acc.intro _ fun y hy => by cases y <;> exact hy.elim
theorem acc_some {r : CoS → CoS → Prop} {X : CoS} (h : Acc r X) : Acc (OpL r) (some X) := by
  induction h with
  | intro X _ ih =>
    refine Acc.intro _ fun y hy => ?_
    cases y with
    | none => exact acc_none r
    | some Y => exact ih Y hy
section
variable {P : Program} {S : Nat → Prop} {c : Nat} {z : Value} {FinS : (Nat → Prop) → World → Prop} {FinR : (Nat → Prop) → Goroutine → World → Prop} {k : Nat} {w0 : World} {I : Nat → Prop}
variable {vs : List Value} {O O0 O1 : Nat → Prop} {x y : Option CoS} {gs : Array Goroutine} {a b g : Goroutine} {w : World} {t : Trace} {q : Nat → Nat}
theorem SitR.acc (h : SitR P S c z FinR vs O x a w) : Acc (OpL (NxC P true S (RecvsO P S c z FinR vs))) x := by
  rcases h with ⟨W, rfl, h2, _⟩ | ⟨rfl, _⟩
  · exact acc_some h2.acc
  · exact acc_none _
theorem SitS.acc (h : SitS P S c FinS vs O x b w) : Acc (OpL (NxC P false S (SendsO P S c FinS vs))) x := by
  rcases h with ⟨W, rfl, h2, _⟩ | ⟨rfl, _⟩
  · exact acc_some h2.acc
  · exact acc_none _
variable (P S c z FinS FinR k w0 I) in
def PipeRuns (vs : List Value) : Prop := ∀ (O0 O1 : Nat → Prop) (x y : Option CoS) (gs : Array Goroutine) (w : World) (t : Trace) (q : Nat → Nat) (sl : Option (Nat × Nat)), Opn P S c z FinS FinR k w0 I vs O0 O1 x y gs w t q →
  ∃ N gs' w' sl' t' q' O0' O1' g, runNT P N (crowd gs w sl) t = (.next (crowd gs' w' sl'), t') ∧ Piped P S c FinS FinR w0 I gs' w' t' q' O0' O1' g
theorem Opn.run_vs (hFin : ∀ O w w1, Keep S O w w1 → FinS O w → FinS O w1) (vs : List Value) (ihv : ∀ v vs', vs = v :: vs' → PipeRuns P S c z FinS FinR k w0 I vs') : PipeRuns P S c z FinS FinR k w0 I vs := by
  have key : ∀ x, Acc (OpL (NxC P true S (RecvsO P S c z FinR vs))) x → ∀ y, Acc (OpL (NxC P false S (SendsO P S c FinS vs))) y → ∀ (M : Nat) (O0 O1 : Nat → Prop) (gs : Array Goroutine) (w : World) (t : Trace) (q : Nat → Nat) (sl : Option (Nat × Nat)), sumTo gs.size q ≤ M → Opn P S c z FinS FinR k w0 I vs O0 O1 x y gs w t q →
      ∃ N gs' w' sl' t' q' O0' O1' g, runNT P N (crowd gs w sl) t = (.next (crowd gs' w' sl'), t') ∧ Piped P S c FinS FinR w0 I gs' w' t' q' O0' O1' g := by
    intro x hx
    induction hx with
    | intro x _ ihx =>
      intro y hy
      induction hy with
      | intro y hy' ihy =>
        intro M
        induction M using Nat.strongRecOn with
        | _ M ihM =>
          intro O0 O1 gs w t q sl hM h
          obtain ⟨a, ha, hzero⟩ := h.zero
          obtain ⟨b, hb, hkid⟩ := h.kid
          have hrun : ∀ g ∈ gs, awake g := by
            intro g hg
            obtain ⟨i, hi, rfl⟩ := Array.mem_iff_getElem.1 hg
            by_cases hi0 : i = 0
            · subst hi0
              have : gs[0] = a := by simpa [Array.getElem?_eq_getElem hi] using ha
              rw [this]; exact awake_of (hzero.status.elim (fun x => .inl x.1) fun x => .inr (.inl x.1))
            · by_cases hik : i = k
              · subst hik
                have : gs[i] = b := by simpa [Array.getElem?_eq_getElem hi] using hb
                rw [this]; exact awake_of (hkid.status.elim (fun x => .inl x.1) fun x => .inr (.inl x.1))
              · exact awake_of ((h.rest i _ (by omega) hik (Array.getElem?_eq_getElem hi)).status.elim .inl fun x => .inr (.inr x))
          have hsome : ∃ (i : Nat) (g : Goroutine), gs[i]? = some g ∧ g.status = .running := by
            rcases h.some1 with hx | hy
            · exact ⟨0, a, ha, hzero.status.elim (fun x => x.1) fun x => absurd x.2 hx⟩
            · exact ⟨k, b, hb, hkid.status.elim (fun x => x.1) fun x => absurd x.2 hy⟩
          obtain ⟨i, g, d, sl', hi, hg, hst⟩ := crowd_pick (P := P) (w := w) (sl := sl) hrun hsome
          have hd := h.at d
          by_cases hi0 : i = 0
          · subst hi0
            rw [ha] at hi
            obtain rfl := Option.some.inj hi
            cases x with
            | none => rcases hzero.status with ⟨_, e⟩ | ⟨e, _⟩
                      · exact absurd rfl e
                      · rw [hg] at e; cases e
            | some X =>
              rcases hd.own0 sl' with ⟨a2, ha2, hR⟩ | ⟨gs2, w2, ops, X2, r1, r2, r3, r4⟩
              · cases y with
                | some Y =>
                  obtain ⟨gs2, ops, r1, r2, r3⟩ := hd.waits0 ha2 hR sl'
                  obtain ⟨N, gs3, w3, sl3, t3, q3, A, B, g3, e1, e2⟩ := ihx none trivial (some Y) (Acc.intro _ hy') _ O0 O1 gs2 _ (t ++ ops) q sl' (Nat.le_refl _) r2
                  exact ⟨N + 1, gs3, w3, sl3, t3, q3, A, B, g3, by simp only [runNT, hst, r1]; exact e1, e2⟩
                | none =>
                  obtain ⟨v, vs', hv, gs2, w2, ops, X2, Y2, r1, r2, r3⟩ := hd.meets0 ha2 hR sl'
                  obtain ⟨N, gs3, w3, sl3, t3, q3, A, B, g3, e1, e2⟩ := ihv v vs' hv _ _ _ _ gs2 w2 (t ++ ops) q sl' r2
                  exact ⟨N + 1, gs3, w3, sl3, t3, q3, A, B, g3, by simp only [runNT, hst, r1]; exact e1, e2⟩
              · obtain ⟨N, gs3, w3, sl3, t3, q3, A, B, g3, e1, e2⟩ := ihx (some X2) r2 y (Acc.intro _ hy') _ X2.O O1 gs2 w2 (t ++ ops) q sl' (Nat.le_refl _) r3
                exact ⟨N + 1, gs3, w3, sl3, t3, q3, A, B, g3, by simp only [runNT, hst, r1]; exact e1, e2⟩
          · by_cases hik : i = k
            · subst hik
              rw [hb] at hi
              obtain rfl := Option.some.inj hi
              cases y with
              | none => rcases hkid.status with ⟨_, e⟩ | ⟨e, _⟩
                        · exact absurd rfl e
                        · rw [hg] at e; cases e
              | some Y =>
                rcases hd.ownK sl' with ⟨b2, hb2, hS⟩ | ⟨gs2, w2, ops, X2, r1, r2, r3, r4⟩
                · cases vs with
                  | nil =>
                    obtain ⟨gs2, w2, ops, X2, m, q2, r1, r2, r3⟩ := hd.close hFin hb2 hS sl'
                    obtain ⟨_, _, hz2⟩ := r2.zero
                    have hacc : Acc (NxC P true S (RecvsO P S c z FinR [])) X2 := by
                      rcases hz2 with ⟨W, e, hco, _⟩ | ⟨e, _⟩
                      · obtain rfl := Option.some.inj e
                        exact hco.acc
                      · cases e
                    obtain ⟨N, gs3, w3, sl3, t3, q3, A, B, g3, e1, e2⟩ := Cls.run hFin X2 hacc _ _ gs2 w2 (t ++ ops) q2 sl' (Nat.le_refl _) r2
                    exact ⟨N + 1, gs3, w3, sl3, t3, q3, A, B, g3, by simp only [runNT, hst, r1]; exact e1, e2⟩
                  | cons v vs =>
                    cases x with
                    | some X =>
                      obtain ⟨gs2, ops, r1, r2, r3⟩ := hd.waitsK hb2 hS sl'
                      obtain ⟨N, gs3, w3, sl3, t3, q3, A, B, g3, e1, e2⟩ := ihy none trivial _ O0 O1 gs2 _ (t ++ ops) q sl' (Nat.le_refl _) r2
                      exact ⟨N + 1, gs3, w3, sl3, t3, q3, A, B, g3, by simp only [runNT, hst, r1]; exact e1, e2⟩
                    | none =>
                      obtain ⟨gs2, w2, ops, X2, Y2, r1, r2, r3⟩ := hd.meetsK hb2 hS sl'
                      obtain ⟨N, gs3, w3, sl3, t3, q3, A, B, g3, e1, e2⟩ := ihv v vs rfl _ _ _ _ gs2 w2 (t ++ ops) q sl' r2
                      exact ⟨N + 1, gs3, w3, sl3, t3, q3, A, B, g3, by simp only [runNT, hst, r1]; exact e1, e2⟩
                · obtain ⟨N, gs3, w3, sl3, t3, q3, A, B, g3, e1, e2⟩ := ihy (some X2) r2 _ O0 X2.O gs2 w2 (t ++ ops) q sl' (Nat.le_refl _) r3
                  exact ⟨N + 1, gs3, w3, sl3, t3, q3, A, B, g3, by simp only [runNT, hst, r1]; exact e1, e2⟩
            · obtain ⟨gs2, ops, q2, r1, r2, r3, r4⟩ := hd.slip hi hg (by omega) hik sl'
              obtain ⟨N, gs3, w3, sl3, t3, q3, A, B, g3, e1, e2⟩ := ihM (sumTo gs2.size q2) (by rw [r3]; omega) O0 O1 gs2 _ (t ++ ops) q2 sl' (Nat.le_refl _) r2
              exact ⟨N + 1, gs3, w3, sl3, t3, q3, A, B, g3, by simp only [runNT, hst, r1]; exact e1, e2⟩
  intro O0 O1 x y gs w t q sl h
  obtain ⟨a, ha, hzero⟩ := h.zero
  obtain ⟨b, hb, hkid⟩ := h.kid
  exact key x hzero.acc y hkid.acc _ O0 O1 gs w t q sl (Nat.le_refl _) h
theorem pipe_runs (hFin : ∀ O w w1, Keep S O w w1 → FinS O w → FinS O w1) : ∀ vs, PipeRuns P S c z FinS FinR k w0 I vs
  | [] => Opn.run_vs hFin [] fun _ _ e => by cases e
  | v :: vs => Opn.run_vs hFin (v :: vs) fun v' vs' e => by
    cases e
    exact pipe_runs hFin vs
end
end Go.Proofs.Ytndncmjhpbjcoaa

/- The pipe's phase as a step of a walk beside leavers: at the go statement; to where the receiver has found the channel closed. -/
namespace Go.Proofs.Ytndncmjhpbjcoaa
open Go Go.Conc Go.ConcN

section
variable {P : Program} {S : Nat → Prop} {c : Nat} {z : Value} {FinS : (Nat → Prop) → World → Prop} {FinR : (Nat → Prop) → Goroutine → World → Prop} {vs : List Value} {O0 O1 : Nat → Prop} {w : World}
theorem ol_memory {X : Nat → Prop} {l : Loc} (h : OL X l) : l.isMemory = true := by
  rcases h with ⟨a, rfl, _⟩ | ⟨s, rfl, _⟩ <;> rfl
theorem To.pipe {fr fr1 : Frame} {cs cs1 : List Frame} {child : Goroutine} {Q : Frame → List Frame → World → Prop} (hFin : ∀ O w w1, Keep S O w w1 → FinS O w → FinS O w1)
    (hs : ∀ d, stepG P true (G fr cs) (w.at d) = .spawn (G fr1 cs1) child (w.at d) #[]) (hm : Parts S O0 O1 c w.heap.size) (hc : ∃ s r, w.heap[c]? = some (.chan 0 #[] false s r false))
    (hR : Co P true S (RecvsO P S c z FinR vs) O0 (G fr1 cs1) w) (hS : Co P false S (SendsO P S c FinS vs) O1 child w)
    (hE : ∀ O0' O1' g w', FinR O0' g w' → FinS O1' w' → Parts S O0' O1' c w'.heap.size → Since w (fun b => O0 b ∨ O1 b) O0' O1' c w' → ∃ fr' cs', g = G fr' cs' ∧ CleanF fr' ∧ CleanS cs' ∧ Q fr' cs' w') : To P fr cs w Q := by
  have main : ∀ (M d : Nat) (gs : Array Goroutine) (sl : Option (Nat × Nat)) (t : Trace) (q : Nat → Nat), sumTo gs.size q ≤ M → Here P fr cs (w.at d) gs t q →
      ∃ N gs' sl' t' q' fr' cs' w', runNT P N (crowd gs (w.at d) sl) t = (.next (crowd gs' w' sl'), t') ∧ Here P fr' cs' w' gs' t' q' ∧ Q fr' cs' w' := by
    intro M
    induction M using Nat.strongRecOn with
    | _ M ihM =>
      intro d gs sl t q hM hH
      obtain ⟨i, g, d', sl', hi, hg, hst⟩ := crowd_pick (P := P) (w := w.at d) (sl := sl) hH.running ⟨0, _, hH.zero, rfl⟩
      have hat : (w.at d).at d' = w.at d' := rfl
      rw [hat] at hst
      rcases Nat.eq_zero_or_pos i with rfl | hpos
      · have hlt : 0 < gs.size := (Array.getElem?_eq_some_iff.1 hH.zero).1
        have hrun := runT_crowd_spawn (P := P) (sl := sl') (i := 0) hH.zero (hs d')
        obtain ⟨xx, hxx⟩ : ∃ x : MemOp, x = { g := 0, fn := (G fr cs).frame.fn, pos := (G fr cs).frame.place, act := .go gs.size } := ⟨_, rfl⟩
        obtain ⟨yy, hyy⟩ : ∃ y : MemOp, y = { g := gs.size, fn := child.frame.fn, pos := (G fr cs).frame.place, act := .start } := ⟨_, rfl⟩
        rw [← hxx, ← hyy] at hrun
        have hops : ((MemOp.ofEvents 0 (G fr cs).frame.fn (G fr cs).frame.place #[]).push xx).push yy = #[xx, yy] := rfl
        rw [hops] at hrun
        have hdq : ∀ g, ∀ op ∈ (#[xx, yy] : Trace), ∀ d, deafStep g d op = d := by
          intro g op hop d
          simp only [List.mem_toArray, List.mem_cons, List.not_mem_nil, or_false] at hop
          rcases hop with rfl | rfl
          · rw [hxx]; rfl
          · rw [hyy]; rfl
        have hO : Opn P S c z FinS FinR gs.size w (fun b => O0 b ∨ O1 b) vs O0 O1 (some ⟨O0, G fr1 cs1, w⟩) (some ⟨O1, child, w⟩) ((gs.setIfInBounds 0 (G fr1 cs1)).push child) (w.at d') (t ++ #[xx, yy]) q := by
          refine ⟨by omega, ⟨G fr1 cs1, ?_, .inl ⟨w, rfl, hR, keep_at _ _ _ _⟩⟩, ⟨child, ?_, .inl ⟨w, rfl, hS, keep_at _ _ _ _⟩⟩, fun j x hj hjk hx => ?_, fun j hj => ?_, .inl (by simp), hc, hm, ⟨rfl, rfl, rfl, Nat.le_refl _, fun _ _ _ _ => rfl, fun b hb _ => .inl hb, fun b hb _ => .inr hb⟩,
            PT.fork hH.past (hH.leave.above _ (Nat.le_refl _)) (by rw [hxx]; exact ⟨rfl, rfl⟩) (by rw [hyy]; exact ⟨rfl, rfl⟩) (fun l hl => ol_memory hl) fun l hl => hl.elim ol_memory fun e => by rw [e]; rfl⟩
          · rw [Array.getElem?_push_lt (by simpa using hlt)]
            simp [hlt]
          · rw [Array.getElem?_push, if_pos (by simp)]
          · rw [Deaf_quiet (hdq j)]
            refine hH.leave.old j x hj ?_
            rw [Array.getElem?_push] at hx
            split at hx
            · rename_i e
              simp at e
              exact absurd e hjk
            · rwa [Array.getElem?_setIfInBounds_ne (by omega)] at hx
          · rw [Deaf_quiet (hdq j)]
            refine hH.leave.above j ?_
            simp at hj
            omega
        obtain ⟨N, gs2, w2, sl2, t2, q2, A, B, g2, e1, e2⟩ := pipe_runs hFin vs _ _ _ _ _ _ _ _ sl' hO
        obtain ⟨fr2, cs2, rfl, h1, h2, h3⟩ := hE A B g2 w2 e2.finR e2.finS e2.mem e2.far
        exact ⟨N + 1, gs2, sl2, t2, q2, fr2, cs2, w2, by simp only [runNT, hst, hrun]; exact e1, ⟨e2.zero, e2.leave, e2.past, h1, h2⟩, h3⟩
      · obtain ⟨gs', ops, q', r1, r2, r3, r4⟩ := hH.slip hi hg hpos d' sl'
        rw [hat] at r1 r2
        obtain ⟨N, gs2, sl2, t2, q2, fr2, cs2, w2, e1, e2, e3⟩ := ihM (sumTo gs'.size q') (by rw [r3]; omega) d' gs' sl' (t ++ ops) q' (Nat.le_refl _) r2
        exact ⟨N + 1, gs2, sl2, t2, q2, fr2, cs2, w2, by simp only [runNT, hst, r1]; exact e1, e2, e3⟩
  intro gs sl t q hH
  exact main _ w.drawn gs sl t q (Nat.le_refl _) hH
end
end Go.Proofs.Ytndncmjhpbjcoaa

/- The pipe's phase, however much has been drawn ahead of it. -/
namespace Go.Proofs.Ytndncmjhpbjcoaa
open Go Go.Conc Go.ConcN

theorem Like.at {w w' : World} (h : Like w w') : w' = w.at w'.drawn := by
  obtain ⟨h1, h2, h3, h4⟩ := h
  obtain ⟨hp, tp, dr, os, ou⟩ := w
  obtain ⟨hp', tp', dr', os', ou'⟩ := w'
  simp only at h1 h2 h3 h4
  subst h1 h2 h3 h4
  rfl
theorem ToD.pipe {P : Program} {S : Nat → Prop} {c : Nat} {z : Value} {FinS : (Nat → Prop) → World → Prop} {FinR : (Nat → Prop) → Goroutine → World → Prop} {vs : List Value} {O0 O1 : Nat → Prop} {w : World} {fr fr1 : Frame} {cs cs1 : List Frame} {child : Goroutine} {Q : Frame → List Frame → World → Prop}
    (hFin : ∀ O w w1, Keep S O w w1 → FinS O w → FinS O w1) (hs : ∀ d, stepG P true (G fr cs) (w.at d) = .spawn (G fr1 cs1) child (w.at d) #[]) (hm : Parts S O0 O1 c w.heap.size) (hc : ∃ s r, w.heap[c]? = some (.chan 0 #[] false s r false))
    (hR : Co P true S (RecvsO P S c z FinR vs) O0 (G fr1 cs1) w) (hS : Co P false S (SendsO P S c FinS vs) O1 child w)
    (hE : ∀ O0' O1' g w', FinR O0' g w' → FinS O1' w' → Parts S O0' O1' c w'.heap.size → Since w (fun b => O0 b ∨ O1 b) O0' O1' c w' → ∃ fr' cs', g = G fr' cs' ∧ CleanF fr' ∧ CleanS cs' ∧ Q fr' cs' w') : ToD P fr cs w Q := fun w' hl => by
  rw [hl.at]
  exact To.pipe hFin (fun d => hs d) hm hc (hR.rely (keep_at _ _ _ _)) (hS.rely (keep_at _ _ _ _)) fun O0' O1' g w2 h1 h2 h3 h4 => hE O0' O1' g w2 h1 h2 h3 ⟨h4.tape, h4.os, h4.out, h4.size, h4.block, h4.o0, h4.o1⟩
end Go.Proofs.Ytndncmjhpbjcoaa
