/- laws.FnWords: the walk. -/
import Derived.Test.YtbmihbbpdmpmpaaDoorWordP
import Derived.Test.YtbmihbbpdmpmpaaDoorCur
namespace Go.Proofs.YtbmihbbpdmpmpaaDoor
open Go.RowKit

theorem own_str {w : World} {A : Option Addr} {l : List ByteArray} {b : Nat} (h : OwnT w b A l) : StrS w w.heap.size A l := fun hn => by
  obtain ⟨g, off, e, _, h2, hc⟩ := h hn
  exact ⟨g, off, e, h2, fun i x hx => (hc i x hx).1⟩
set_option maxRecDepth 100000 in
set_option maxHeartbeats 4000000 in
theorem lawWords (A : Option Addr) (c : Nat) (xs : List Int) (w : World) (hn : xs.length ≤ 9223372036854775807) (hS : CodeS w w.heap.size A xs)
    (htab : Lib.TabIs Tryd.prog w "internal/strconv.uint64pow10" .u64 Lib.pow10Tab) (t1 t2 : TypeId) (p1 p2 : Value)
    (hv1 : w.var? Tryd.prog "strconv.ErrSyntax" = some #[.iface t1 p1]) (hv2 : w.var? Tryd.prog "strconv.ErrRange" = some #[.iface t2 p2]) :
    Calls Tryd.prog 5 #[.slice A xs.length c] w fun e w' => e = .returned (.bool true) ∧ Below w.heap.size w w' := by
  by_cases hs : xs.length ≤ 1048576
  · have hsi : (xs.length : Int) ≤ 1048576 := by omega
    have HS := Lib.hid hS
    have HT := Lib.hid (Lib.tabBelow_of_tabIs htab)
    have HV1 : Hid (∀ w', Below w.heap.size w w' → w'.var? Tryd.prog "strconv.ErrSyntax" = some #[.iface t1 p1]) := Lib.hid fun w' hb => Joins.var_stays (g := 0) (by kernel_rfl) hv1 hb (Nat.le_refl _)
    have HV2 : Hid (∀ w', Below w.heap.size w w' → w'.var? Tryd.prog "strconv.ErrRange" = some #[.iface t2 p2]) := Lib.hid fun w' hb => Joins.var_stays (g := 1) (by kernel_rfl) hv2 hb (Nat.le_refl _)
    have HM := Lib.hid (makeNum_any 1 (by omega) w A c xs hs hS)
    have HI := fun n w h0 h1 h => Lib.hid (implFormat n w h0 h1 h)
    have HP := fun s w hs h h1 h2 => Lib.hid (implParse s w hs h t1 t2 p1 p2 h1 h2)
    have HX := fun w h => Lib.hid (makeText_any w A c xs hs h)
    have HSP := fun s w h => Lib.hid (implSplit s sp w h (by decide))
    have HJ := fun A c l w h1 h2 h3 => Lib.hid (implJoin A c l sp w (by decide) h1 h2 h3)
    have HNM := fun w => Lib.hid (implName ⟨#[120, 49]⟩ w (by decide))
    have HLN := fun w => Lib.hid (implLines ⟨#[97, 10, 98, 10]⟩ w (by decide))
    clear hS htab hv1 hv2 hs
    go_enter Tryd.func5, Tryd.ntmps5
    go_wp2_with fail
    refine HM.out.mono ?_
    rintro e w1 ⟨x, rfl, hx0, hx1, hb1⟩
    have HT1 := Lib.hid (HT.out w1 hb1)
    clear HM
    go_wp2_with fail
    refine (HI _ _ (by omega) (by omega) HT1.out).out.mono ?_
    rintro e w2 ⟨rfl, hb2⟩
    have hb3 := hb1.trans (hb2.mono hb1.size)
    clear hb1 hb2 HT1
    have HT2 := Lib.hid (HT.out w2 hb3)
    have hin : in64 (x - 30000) := ⟨by omega, by omega⟩
    obtain ⟨e1, e2⟩ := parse_yes (s := numeral (x - 30000)) hin rfl
    have hsz : (numeral (x - 30000)).size ≤ 1048576 := by
      have := numeral_size _ hin.1 hin.2
      omega
    have H4 := HP (numeral (x - 30000)) w2 hsz HT2.out (HV1.out w2 hb3) (HV2.out w2 hb3)
    rw [e1, e2] at H4
    clear e1 e2 hsz hin HP HI
    go_wp2_with fail
    refine H4.out.mono ?_
    rintro e w3 ⟨rfl, hb2⟩
    have hb4 := hb3.trans (hb2.mono hb3.size)
    clear hb3 hb2 H4 HT2
    have H5 := HX w3 ((HS.out.keep hb4).up hb4.size)
    clear HX
    go_wp2_with fail
    refine H5.out.mono ?_
    rintro e w4 ⟨s, rfl, hs, hb2⟩
    have hb5 := hb4.trans (hb2.mono hb4.size)
    clear hb4 hb2 H5
    have H6 := HSP s w4 (by omega)
    clear HSP
    go_wp2_with fail
    refine H6.out.mono ?_
    rintro e w5 ⟨A1, c1, rfl, hc1, hO, hb2⟩
    have hb6 := hb5.trans (hb2.mono hb5.size)
    clear hb5 hb2 H6
    have hsz := split_sizes s sp
    have H7 := HJ A1 c1 (splitB s sp) w5 (by omega) hc1 (own_str hO)
    rw [join_split] at H7
    clear HJ hO hsz
    go_wp2_with fail
    refine H7.out.mono ?_
    rintro e w6 ⟨rfl, hb2⟩
    have hb7 := hb6.trans (hb2.mono hb6.size)
    clear hb6 hb2 H7
    have hse : (s.toList == s.toList) = true := by simp
    have H8 := HNM w6
    rw [name_x1] at H8
    clear HNM
    go_wp2_with fail
    refine H8.out.mono ?_
    rintro e w7 ⟨rfl, hb2⟩
    have hb8 := hb7.trans (hb2.mono hb7.size)
    clear hb7 hb2 H8
    have H9 := HLN w7
    clear HLN
    go_wp2_with fail
    refine H9.out.mono ?_
    rintro e w8 ⟨A2, c2, rfl, -, hb2⟩
    have hb9 := hb8.trans (hb2.mono hb8.size)
    rw [lines_ab]
    clear hb8 hb2 H9
    go_wp2
    go_ret
    exact ⟨rfl, hb9⟩
  · have hsi : (1048576 : Int) < (xs.length : Int) := by omega
    have hsj : (xs.length : Int) ≤ 9223372036854775807 := by omega
    clear htab hv1 hv2 hS
    go_enter Tryd.func5, Tryd.ntmps5
    go_wp2
    go_ret
    exact ⟨rfl, Below.refl _ _⟩
end Go.Proofs.YtbmihbbpdmpmpaaDoor
