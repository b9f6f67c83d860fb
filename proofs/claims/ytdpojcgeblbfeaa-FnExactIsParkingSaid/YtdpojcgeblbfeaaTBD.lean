/- One text out of several: MatOk DetM DetB InvM Ones DetI DetD DetS DetL. -/
import Derived.Test.YtdpojcgeblbfeaaTBA
import Derived.Test.YtdpojcgeblbfeaaTBF
import Derived.Test.YtdpojcgeblbfeaaTBG
import Derived.Deep.CutRange
import Derived.Deep.AppendLies
import Derived.Deep.RegionLaw
set_option linter.all false
/- MatrixOk: the specification's loops and the program's answer alike: one plain Bool function of the rows. -/
namespace Go.Proofs.Ytdpojcgeblbfeaa
open Go.RowKit

end Go.Proofs.Ytdpojcgeblbfeaa

/- Determinants, the plain math: expansion along the first row and along the last row agree. -/
namespace Go.Proofs.Ytdpojcgeblbfeaa

def sumN : Nat → (Nat → Int) → Int
  | 0, _ => 0
  | n + 1, f => sumN n f + f n
theorem sumN_congr {f g : Nat → Int} : ∀ n : Nat, (∀ i, i < n → f i = g i) → sumN n f = sumN n g
  | 0, _ => rfl
  | n + 1, h => by rw [sumN, sumN, sumN_congr n (fun i hi => h i (by omega)), h n (by omega)]
theorem sumN_add (f g : Nat → Int) : ∀ n, sumN n (fun i => f i + g i) = sumN n f + sumN n g
  | 0 => rfl
  | n + 1 => by rw [sumN, sumN, sumN, sumN_add f g n]; omega
theorem sumN_mul (c : Int) (f : Nat → Int) : ∀ n, sumN n (fun i => c * f i) = c * sumN n f
  | 0 => by simp [sumN]
  | n + 1 => by rw [sumN, sumN, sumN_mul c f n, Int.mul_add]
theorem sumN_zero : ∀ n, sumN n (fun _ => 0) = 0
  | 0 => rfl
  | n + 1 => by rw [sumN, sumN_zero n]; rfl
theorem sumN_swap (F : Nat → Nat → Int) : ∀ n m, sumN n (fun i => sumN m (fun j => F i j)) = sumN m (fun j => sumN n (fun i => F i j))
  | 0, m => by simp only [sumN]; rw [sumN_zero]
  | n + 1, m => by
    rw [sumN, sumN_swap F n m]
    simp only [sumN]
    rw [sumN_add]
theorem sumN_one {f : Nat → Int} {a : Nat} : ∀ n, a < n → (∀ i, i < n → i ≠ a → f i = 0) → sumN n f = f a
  | 0, h, _ => by omega
  | n + 1, h, h0 => by
    rw [sumN]
    by_cases e : a = n
    · subst e
      rw [sumN_congr a (g := fun _ => 0) (fun i hi => h0 i (by omega) (by omega)), sumN_zero]
      omega
    · rw [sumN_one n (by omega) (fun i hi => h0 i (by omega)), h0 n (by omega) (Ne.symm e)]
      omega
def skip (a j : Nat) : Nat := if j < a then j else j + 1
theorem sumN_skip (h : Nat → Int) {a : Nat} : ∀ n, a ≤ n → sumN (n + 1) h = sumN n (fun j => h (skip a j)) + h a
  | 0, ha => by
    obtain rfl : a = 0 := by omega
    simp [sumN]
  | n + 1, ha => by
    by_cases e : a = n + 1
    · subst e
      rw [sumN, sumN_congr (n + 1) (f := h) (g := fun j => h (skip (n + 1) j)) (fun i hi => by rw [skip, if_pos hi])]
    · rw [sumN, sumN_skip h (a := a) n (by omega), sumN]
      have : skip a n = n + 1 := by rw [skip, if_neg (by omega)]
      rw [this]
      omega
def sgn (n : Nat) : Int := if n % 2 = 0 then 1 else -1
theorem sgn_succ (n : Nat) : sgn (n + 1) = - sgn n := by
  unfold sgn
  by_cases h : n % 2 = 0
  · rw [if_pos h, if_neg (by omega)]
  · rw [if_neg h, if_pos (by omega)]; rfl

def detF : List (Nat → Int) → List Nat → Int
  | [], _ => 1
  | r :: R, C => sumN C.length fun i => sgn i * r (C.getD i 0) * detF R (C.eraseIdx i)
theorem getD_erase (C : List Nat) (a j : Nat) : (C.eraseIdx a).getD j 0 = C.getD (skip a j) 0 := by
  simp only [List.getD, List.getElem?_eraseIdx, skip]
  split <;> rfl
theorem erase_comm (C : List Nat) {a b : Nat} (h : a < b) : (C.eraseIdx a).eraseIdx (b - 1) = (C.eraseIdx b).eraseIdx a := by
  apply List.ext_getElem?
  intro i
  simp only [List.getElem?_eraseIdx]
  by_cases h1 : i < a
  · rw [if_pos (by omega), if_pos h1, if_pos h1, if_pos (by omega)]
  · by_cases h2 : i < b - 1
    · rw [if_pos h2, if_neg h1, if_neg h1, if_pos (by omega)]
    · rw [if_neg h2, if_neg (by omega), if_neg h1, if_neg (by omega)]
theorem erase_len {C : List Nat} {a : Nat} (h : a < C.length) : (C.eraseIdx a).length = C.length - 1 := by rw [List.length_eraseIdx_of_lt h]

end Go.Proofs.Ytdpojcgeblbfeaa

/- Minors by sets of columns, the plain math: a set of columns is a number whose bits they are. -/
namespace Go.Proofs.Ytdpojcgeblbfeaa

end Go.Proofs.Ytdpojcgeblbfeaa

/- Invariant factors, the plain math: bounds of determinants, greatest common divisors of lists, sets of rows. -/
namespace Go.Proofs.Ytdpojcgeblbfeaa

def gcdL : Nat → List Int → Nat
  | g, [] => g
  | g, x :: l => gcdL (Nat.gcd g x.natAbs) l
theorem dvd_gcdL {d : Nat} : ∀ (l : List Int) (g : Nat), d ∣ gcdL g l ↔ d ∣ g ∧ ∀ x ∈ l, d ∣ x.natAbs
  | [], g => by simp [gcdL]
  | x :: l, g => by
    rw [gcdL, dvd_gcdL l, Nat.dvd_gcd_iff]
    simp [and_assoc]
theorem eq_of_dvd {a b : Nat} (h : ∀ d, d ∣ a ↔ d ∣ b) : a = b := Nat.dvd_antisymm ((h a).1 (Nat.dvd_refl a)) ((h b).2 (Nat.dvd_refl b))
def subl {α : Type} : List α → List (List α)
  | [] => [[]]
  | x :: l => subl l ++ (subl l).map (x :: ·)
def behind (s : List Nat) : Nat := match s.getLast? with
  | none => 0
  | some x => x + 1
def setsB (n : Nat) : Nat → List (List Nat)
  | 0 => [[]]
  | k + 1 => (setsB n k).flatMap fun s => (List.range' (behind s) (n - behind s)).map fun i => s ++ [i]
theorem subl_sets : ∀ n, n ≤ 6 → ∀ s ∈ subl (List.range n), s ∈ setsB n s.length := by decide +kernel
theorem sets_size : ∀ n, n ≤ 6 → ∀ k, k ≤ 6 → (setsB n k).length ≤ 20 ∧ ∀ s ∈ setsB n k, s.length = k ∧ (∀ i ∈ s, i < n) ∧ behind s ≤ n := by decide +kernel
def gSets (n : Nat) (f : Nat → Nat → Int) (k : Nat) : Nat := gcdL 0 ((setsB n k).flatMap fun R => (setsB n k).map fun C => detF (R.map f) C)
end Go.Proofs.Ytdpojcgeblbfeaa

/- bits.OnesCount of numbers below 64. -/
namespace Go.Proofs.Ytdpojcgeblbfeaa
open Go.RowKit

end Go.Proofs.Ytdpojcgeblbfeaa

/- The program's minors: minorsOfNoRows and minorsWithRow. -/
namespace Go.Proofs.Ytdpojcgeblbfeaa
open Go.RowKit

end Go.Proofs.Ytdpojcgeblbfeaa

/- The program's Determinant. -/
namespace Go.Proofs.Ytdpojcgeblbfeaa
open Go.RowKit

end Go.Proofs.Ytdpojcgeblbfeaa

/- The specification's l03Det: expansion along the first row. -/
namespace Go.Proofs.Ytdpojcgeblbfeaa
open Go.RowKit

section
variable {P : Program} {w : World}
theorem step_append_ownD {ops : Array Oper} {o : Oper} {a : Act} {K : Act → World → Prop} {Q : Exit → Act → World → Prop} {E : Prop} (hgd : o.guard = none) (s x : Operand) (t : TypeId)
    (ho : o.op = .call { callee := .builtin .append, args := #[s, x], argTypes := #[t, t] })
    (base : Nat) (e : TypeId) (i : TypeInfo) (z : Value) (size bytes : Nat) (ht : P.underlying t = some (.slice e)) (hi : P.info? e = some i) (hz : i.zero = some z)
    (hsize : i.size = size) (hby : i.bytes = bytes) (hzs : z.cells.size = size) (hsz : 0 < size)
    (v : Value) (n : Nat) (xs : List Value) (hs : a.eval s = v) (hown : w.ownsRow base e size v n xs)
    (ad : Addr) (m c : Nat) (news : List Value) (hx : a.eval x = .slice (some ad) m c) (hl : news.length = m * size) (hnews : ∀ j u, news[j]? = some u → w.cell? (ad.add j) = some u) (h1 : ∀ u ∈ news, u.oneCell' = true)
    (h63 : n + m ≤ maxLen) (hbytes : (n + m) * bytes ≤ 140737488355328) (hbase : base ≤ w.heap.size)
    (h : ∀ v' w', w'.ownsRow base e size v' (n + m) (xs ++ news) → w.grownBy w' v.ownBlock → K (a.put o.dst v') w') :
    if Region.wanted o (yielded ops a.tmps) = true then Oper.wp P o a w K Q else E := by
  have hw : Region.wanted o (yielded ops a.tmps) = true := by simp [Region.wanted, hgd]
  rw [if_pos hw]
  exact wp_append_own w s x t ho base e i z size bytes ht hi hz hsize hby hzs hsz v n xs hs hown ad m c news hx hl hnews h1 h63 hbytes hbase fun v' w' h2 h3 _ => h v' w' h2 h3
end
end Go.Proofs.Ytdpojcgeblbfeaa

/- The specification's Determinant. -/
namespace Go.Proofs.Ytdpojcgeblbfeaa
open Go.RowKit

end Go.Proofs.Ytdpojcgeblbfeaa
