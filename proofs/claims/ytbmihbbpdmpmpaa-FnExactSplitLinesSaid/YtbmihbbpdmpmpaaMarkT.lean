/- The laws' markText. -/
import Derived.Test.YtbmihbbpdmpmpaaIntB
import Derived.Laws.IdiomStrings
namespace Go.Proofs.Ytbmihbbpdmpmpaa
open Go.RowKit

def digC (n : Nat) : UInt8 := UInt8.ofNat (48 + n % 10)
/-- the digits of n ahead of b -/
def txt (n : Nat) (b : ByteArray) : ByteArray := if n = 0 then b else txt (n / 10) (⟨#[digC n]⟩ ++ b)
termination_by n
decreasing_by omega
theorem txt_zero (b : ByteArray) : txt 0 b = b := by rw [txt, if_pos rfl]
theorem txt_step {n : Nat} (h : n ≠ 0) (b : ByteArray) : txt n b = txt (n / 10) (⟨#[digC n]⟩ ++ b) := by rw [txt, if_neg h]
theorem digC_wrap (n : Nat) : IntKind.u8.wrap (48 + (n : Int) % 10) = ((digC n).toNat : Int) := by
  have h : n % 10 < 10 := Nat.mod_lt _ (by omega)
  have e : (48 + (n : Int) % 10) = ((48 + n % 10 : Nat) : Int) := by omega
  rw [e]
  unfold digC
  have : ∀ x : Nat, x < 10 → IntKind.u8.wrap ((48 + x : Nat) : Int) = ((UInt8.ofNat (48 + x)).toNat : Int) := by decide
  exact this _ h
set_option maxRecDepth 100000 in
set_option maxHeartbeats 1000000 in
theorem markText_any (k : Nat) (w : World) (h0 : 1 ≤ k) (h1 : k ≤ 4194304) :
    Calls Try.prog 76 #[.int .i64 (k : Int)] w fun e w' => e = .returned (.string (⟨#[109]⟩ ++ txt k ⟨#[]⟩)) ∧ Below w.heap.size w w' := by
  go_enter Try.func76, Try.ntmps76
  have hk0 : (0 : Int) < (k : Int) := by omega
  go_wp2
  go_loopw [0, 3] (fun kv s wr => ∃ (j : Nat) (b : ByteArray), j + b.size ≤ k ∧ kv = .int .i64 j ∧ s = .string b ∧ txt j b = txt k ⟨#[]⟩ ∧ Below w.heap.size w wr) (fun kv _ _ => (intOf kv).toNat)
  case atStart => exact ⟨k, ⟨#[]⟩, by simp [ByteArray.size], rfl, rfl, rfl, Below.refl _ _⟩
  case round =>
    obtain ⟨j, b, hjb, rfl, rfl, ht, hb⟩ := hrel
    have HT := Lib.hid ht
    clear ht
    by_cases hj : 0 < j
    · have hj0 : (0 : Int) < (j : Int) := by omega
      have hj1 : (j : Int) ≤ 4194304 := by omega
      have hbs : b.size ≤ 4194304 := by omega
      have e1 := digC_wrap j
      have hnew := Blk.new wr 5 #[.int .u8 ((digC j).toNat : Int)]
      have hcv : (convert 56 9 (.slice (some ⟨wr.heap.size, 0, none⟩) 1 1)).run Try.prog (wr.alloc (.cells #[.int .u8 ((digC j).toNat : Int)] 5)) = .ok (.string ⟨#[digC j]⟩) (wr.alloc (.cells #[.int .u8 ((digC j).toNat : Int)] 5)) := run_convert_bytes_back (P := Try.prog) (wr.alloc (.cells #[.int .u8 ((digC j).toNat : Int)] 5)) 56 9 5 ⟨wr.heap.size, 0, none⟩ 1 [digC j] Try.underlying56 Try.underlying5 Try.underlying9 (fun i hi => by
        obtain rfl : i = 0 := by simp at hi; omega
        exact hnew.cell 0)
      have HT2 := Lib.hid (show txt (j / 10) (⟨#[digC j]⟩ ++ b) = txt k ⟨#[]⟩ by rw [← txt_step (by omega)]; exact HT.out)
      clear hnew
      go_wp2_with fail
      have hbz : (⟨#[digC j]⟩ ++ b : ByteArray).size = b.size + 1 := by simp [ByteArray.size_append, Nat.add_comm]; rfl
      have hd : j / 10 + (b.size + 1) ≤ k := by omega
      have hb2 : Below w.heap.size w (wr.alloc (.cells #[.int .u8 ((digC j).toNat : Int)] 5)) := hb.alloc hb.size _
      have HBZ := Lib.hid hbz
      have HB2 := Lib.hid hb2
      clear hbz hb2
      go_wp2
      exact ⟨⟨j / 10, ⟨#[digC j]⟩ ++ b, by rw [HBZ.out]; exact hd, by go_num, rfl, HT2.out, HB2.out⟩, by simp [intOf]; omega⟩
    · have HT3 := Lib.hid (show b = txt k ⟨#[]⟩ by rw [← HT.out, show j = 0 by omega, txt_zero])
      have hj2 : (j : Int) ≤ 0 := by omega
      have hbs : b.size ≤ 4194304 := by omega
      go_wp2
      go_ret
      exact ⟨by rw [← HT3.out]; rfl, hb⟩
end Go.Proofs.Ytbmihbbpdmpmpaa
