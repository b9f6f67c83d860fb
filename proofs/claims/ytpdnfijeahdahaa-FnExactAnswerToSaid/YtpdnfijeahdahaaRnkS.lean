/- The search of the rank: the specification's l07Minus, l07Win and l07Search. -/
import Derived.Test.YtpdnfijeahdahaaRnkM
import Derived.Test.YtpdnfijeahdahaaBL
namespace Go.Proofs.Ytpdnfijeahdahaa
open Go.RowKit

set_option maxHeartbeats 1000000 in
theorem specMinus (A C : Option Addr) (ca cc : Nat) (xs ys : List Int) (w : World) (hm : ys.length ≤ 1048576) (hl1 : xs.length ≤ ys.length) (h1 : IntS w w.heap.size A xs) (h2 : IntS w w.heap.size C ys) :
    Calls Try.prog 56 #[.slice A xs.length ca, .slice C ys.length cc] w (GivesInts w (subB xs ys)) := by
  obtain ⟨i0, hi, hz0, hz1, hz2⟩ := info_parts intInfo
  have HS := Lib.hid h1
  have HT := Lib.hid h2
  clear h1 h2
  go_enter Try.func56, Try.ntmps56
  go_wp2
  go_loopw [5, 11] (fun v i wr => ∃ k : Nat, k ≤ xs.length ∧ i = .int .i64 k ∧ wr.ownsRow w.heap.size 3 1 v k (intCells ((subB xs ys).take k)) ∧ Below w.heap.size w wr) (fun _ i _ => xs.length - (intOf i).toNat)
  case atStart =>
    refine ⟨0, Nat.zero_le _, rfl, ?_, (Below.refl _ _).alloc (Nat.le_refl _) _⟩
    exact ⟨rfl, .inr ⟨w.heap.size, 0, #[], rfl, Nat.le_refl _, heap_alloc_new w _, Nat.le_refl _, Nat.zero_le _, rfl, rfl⟩⟩
  case round =>
    obtain ⟨k, hk, rfl, hown, hb⟩ := hrel
    have HO := Lib.hid hown
    have hbn := hb.size
    clear hown
    by_cases hlt : k < xs.length
    · obtain ⟨b1, o1, x, rfl, hb1, he, hc0⟩ := (HS.out.below hb).at_ hlt
      obtain ⟨b2, o2, y, rfl, hb2, hf, hd0⟩ := (HT.out.below hb).at_ (k := k) (by omega)
      have hi0 : (0 : Int) ≤ (k : Int) := Int.natCast_nonneg _
      have hi1 : (k : Int) < (xs.length : Int) := by omega
      have hi2 : (k : Int) < (ys.length : Int) := by omega
      have HMT := Lib.hid (take_snocI (subB_at he hf))
      clear he hf
      go_wp2_with (at_builtin; refine wpList_append_own _ rfl _ _ 27 rfl w.heap.size 3 i0 (.int .i64 0) 1 8 Try.underlying27 hi hz0 hz1 hz2 rfl (by decide) _ _ _ rfl (HO.out.alloc _) ⟨wr.heap.size, 0, none⟩ 1 1 [.int .i64 (wrap64 (x - y))] rfl rfl ?c1 ?c2 ?c3 ?c4 ?c5 ?_)
      case c1 => exact one_cellI _ _ (by simp) _ _
      case c2 => simp [Value.oneCell']
      case c3 => unfold maxLen; omega
      case c4 => omega
      case c5 => simp; omega
      intro v' w1 hown' hgrow _
      have HO2 := Lib.hid hown'
      clear hown'
      go_wp2
      refine ⟨⟨k + 1, by omega, by go_num, ?_, (hb.alloc hb.size _).grown hgrow (by simp; omega) (fun q hq => (HO.out.lt q hq).1)⟩, by simp [intOf]; omega⟩
      have h3 := HO2.out
      rw [HMT.out]
      simpa [intCells] using h3
    · have HO3 := HO.out
      rw [show k = xs.length by omega, List.take_of_length_le (by rw [subB_len]; exact Nat.le_refl _)] at HO3
      obtain ⟨Ar, cr, rfl⟩ : ∃ Ar cr, u5 = .slice Ar xs.length cr := by
        rcases HO3.2 with ⟨h1, h2⟩ | ⟨g, cap, cur, h1, _⟩
        · exact ⟨none, 0, by rw [h1, h2]⟩
        · exact ⟨_, _, h1⟩
      have HF := Lib.hid (OwnI.of_own HO3)
      have HLM := Lib.hid (subB_len xs ys)
      clear HO3
      go_wp2
      go_ret
      exact ⟨Ar, cr, by rw [HLM.out]; rfl, HF.out, hb⟩
/-- the winning of any reduced one is that of the chosen one -/
theorem winX_of {M : Nat} {es : List (Int × Int)} {d : List Int} {f : Nat → Int} (hf : IsRed M es d 0 f) (hM0 : 0 < M) (hn : es.length ≤ 12) (hd : ∀ u, -100 ≤ d.getD u 0 ∧ d.getD u 0 ≤ 100) (hes : ∀ e ∈ es, 0 ≤ e.1 ∧ e.1 < e.2 ∧ e.2 < (M : Int)) : (chipsOf M (Dv d es f))[0]? = some (Dv d es f 0) ∧ winX M es d = decide (0 ≤ Dv d es f 0) := by
  have h1 := (redF_eq hf hM0 hn (fun u => by have := hd u; omega) hes).2
  have hb := Dv_bound (d := d) (M := M) hn (fun u => by have := hd u; omega) hes hf.bound 0
  have hb2 := Dv_bound (d := d) (M := M) hn (fun u => by have := hd u; omega) hes (redF_is hf).bound 0
  have h2 := chipsOf_at (Dv d es f) hM0
  have h3 := chipsOf_at (Dv d es (redF M es d 0)) hM0
  rw [wrap64_of (by omega) (by omega)] at h2 h3
  refine ⟨h2, ?_⟩
  rw [h1, h3] at h2
  injection h2 with h2
  unfold winX
  rw [h2]
/-- the search's answer: one less than the degree, and the divisor, new memory -/
def GivesRnk (w : World) (s : Nat) (r : List Int) (e : Ending) (w' : World) : Prop :=
  ∃ (A : Option Addr) (c : Nat), e = .returned (.tuple #[.int .i64 ((s : Int) - 1), .slice A r.length c]) ∧ OwnI w' w.heap.size A r ∧ Below w.heap.size w w'
/-- every divisor in reach has a reduced one: the reducing always comes to its end -/
theorem redAll_any (A : Option Addr) (M : Nat) (es : List (Int × Int)) (w : World) (hM0 : 0 < M) (hM : M ≤ 6) (hn : es.length ≤ 12) (hes : ∀ e ∈ es, 0 ≤ e.1 ∧ e.1 < e.2 ∧ e.2 < (M : Int)) (hc : Cut M es) (hE : EdgeS w w.heap.size A es) : RedAll M es := fun x hl hx => by
  have hb : Below w.heap.size w (w.alloc (.cells (intCells x).toArray 3)) := (Below.refl _ _).alloc (Nat.le_refl _) _
  have hI : IntS (w.alloc (.cells (intCells x).toArray 3)) (w.alloc (.cells (intCells x).toArray 3)).heap.size (some ⟨w.heap.size, 0, none⟩) x := fun _ => ⟨w.heap.size, 0, rfl, by simp, fun i z hz => by rw [Nat.zero_add, (Blk.new w 3 (intCells x).toArray).cell]; simp [intCells, hz]⟩
  obtain ⟨e, w', fr, ⟨A1, A2, c1, c2, f, -, hf, -⟩, -⟩ := l05ReduceW_any A (some ⟨w.heap.size, 0, none⟩) 0 0 M 0 es x _ hM0 hM hM0 hl hn hes hx hc (hE.up_ hb) hI []
  exact ⟨f, hf⟩
theorem keepD2 {w0 W W' : World} {X : Nat} {a b : Value} (h : W.cell? ⟨X, 0, none⟩ = some a ∧ W.cell? ⟨X, 1, none⟩ = some b ∧ Below w0.heap.size w0 W) (hb : Below W.heap.size W W') : W'.cell? ⟨X, 0, none⟩ = some a ∧ W'.cell? ⟨X, 1, none⟩ = some b ∧ Below w0.heap.size w0 W' :=
  ⟨(hb.cell (World.block_lt_of_cell? W _ h.1)).trans h.1, (hb.cell (World.block_lt_of_cell? W _ h.2.1)).trans h.2.1, h.2.2.trans (hb.mono h.2.2.size)⟩
/-- where the first one that cannot be taken away stands -/
theorem lost_at {M : Nat} {es : List (Int × Int)} {d e : List Int} {s : Nat} (h : lostB M es d s = some e) : ∃ t0 : Nat, (effB M (s : Int))[t0]? = some e ∧ winX M es (subB d e) = false ∧ ∀ (t : Nat) (x : List Int), t < t0 → (effB M (s : Int))[t]? = some x → winX M es (subB d x) = true := by
  unfold lostB at h
  rw [List.find?_eq_some_iff_getElem] at h
  obtain ⟨h1, i, hi, h2, h3⟩ := h
  refine ⟨i, by rw [List.getElem?_eq_getElem hi, h2], by simpa using h1, fun t x ht hx => ?_⟩
  have h4 := h3 t ht
  rw [List.getElem?_eq_getElem (by omega)] at hx
  injection hx with hx
  rw [hx] at h4
  simpa using h4
theorem lost_no {M : Nat} {es : List (Int × Int)} {d : List Int} {s t : Nat} {x : List Int} (h : lostB M es d s = none) (hx : (effB M (s : Int))[t]? = some x) : winX M es (subB d x) = true := by
  unfold lostB at h
  rw [List.find?_eq_none] at h
  simpa using h x (List.mem_of_getElem? hx)
/-- what the search holds within a degree -/
structure RnkI (w wr : World) (N : Int) (A : Option Addr) (c : Nat) (es : List (Int × Int)) (lo cL : Nat) (Ar : Option Addr) (vsL : List Value) (L : List (List Int)) : Prop where
  g : GB w wr N A c es
  rows : SSOwnV wr lo (.slice Ar L.length cL) vsL L
  lbs : w.heap.size ≤ lo
theorem RnkI.next {w wr wd : World} {N : Int} {A Ar : Option Addr} {c lo cL : Nat} {es : List (Int × Int)} {vsL : List Value} {L : List (List Int)} (h : RnkI w wr N A c es lo cL Ar vsL L) (hb : Below wr.heap.size wr wd) : RnkI w wd N A c es lo cL Ar vsL L := ⟨h.g.next hb, h.rows.keep hb, h.lbs⟩
end Go.Proofs.Ytpdnfijeahdahaa
