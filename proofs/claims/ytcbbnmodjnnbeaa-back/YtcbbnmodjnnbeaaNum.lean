/- Numbers as bytes: the document's own answer. -/
import Derived.Test.YtcbbnmodjnnbeaaPreds
set_option linter.unusedSimpArgs false
set_option linter.unusedVariables false
namespace Go.Proofs.Ytcbbnmodjnnbeaa
open Go.RowKit

def B (l : List UInt8) : ByteArray := ⟨l.toArray⟩
theorem B_list (l : List UInt8) : (B l).data.toList = l := rfl
@[go_sem] theorem B_size (l : List UInt8) : (B l).size = l.length := rfl
theorem bytes_ext {a b : ByteArray} (h : a.data.toList = b.data.toList) : a = b := by
  obtain ⟨⟨x⟩⟩ := a; obtain ⟨⟨y⟩⟩ := b; simp at h; subst h; rfl
theorem val_str {a b : ByteArray} (h : a.data.toList = b.data.toList) : Value.string a = Value.string b := by rw [bytes_ext h]
theorem ret_str {a b : ByteArray} (h : a.data.toList = b.data.toList) : Ending.returned (.string a) = .returned (.string b) := by rw [bytes_ext h]
theorem list_append (a b : ByteArray) : (a ++ b).data.toList = a.data.toList ++ b.data.toList := by simp

@[go_sem] theorem B_append (a b : List UInt8) : B a ++ B b = B (a ++ b) := bytes_ext (by rw [list_append]; simp only [B_list])
theorem B_eta (s : ByteArray) : B s.data.toList = s := bytes_ext rfl
theorem B_inj {a b : List UInt8} (h : B a = B b) : a = b := by have := congrArg (fun s => s.data.toList) h; exact this

/-- The lowest k bytes of a number, the highest first. -/
def be : Nat → Nat → List UInt8
  | 0, _ => []
  | k + 1, n => UInt8.ofNat (n / 256 ^ k % 256) :: be k n
@[go_sem] theorem be_length (k n : Nat) : (be k n).length = k := by induction k with
  | zero => rfl
  | succ k ih => simp [be, ih]

/-- What string(b) of new bytes gives. -/
theorem conv_new (w : World) (xs : List Int) (n : Nat) (hn : xs.length = n) (cs : Array Value) (hcs : cs = (xs.map (Value.int .u8)).toArray) : (convert 47 9 (.slice (some ⟨w.heap.size, 0, none⟩) n n)).run Try.prog (w.alloc (.cells cs 5)) = .ok (.string (strOfNums xs)) (w.alloc (.cells cs 5)) := by
  subst hcs
  refine run_convert_bytes_arg _ 47 5 Try.underlying47 Try.underlying5 w.heap.size 0 n n xs hn (fun i hi => ?_) 9 Try.underlying9
  have hi' : i < xs.length := by omega
  simp [List.getD, hi']
theorem conv1 (w : World) (a : Int) : (convert 47 9 (.slice (some ⟨w.heap.size, 0, none⟩) 1 1)).run Try.prog (w.alloc (.cells #[.int .u8 a] 5)) = .ok (.string (B [UInt8.ofNat a.toNat])) (w.alloc (.cells #[.int .u8 a] 5)) :=
  conv_new w [a] 1 rfl _ rfl
theorem conv4 (w : World) (a b c d : Int) : (convert 47 9 (.slice (some ⟨w.heap.size, 0, none⟩) 4 4)).run Try.prog (w.alloc (.cells #[.int .u8 a, .int .u8 b, .int .u8 c, .int .u8 d] 5)) = .ok (.string (B [UInt8.ofNat a.toNat, UInt8.ofNat b.toNat, UInt8.ofNat c.toNat, UInt8.ofNat d.toNat])) (w.alloc (.cells #[.int .u8 a, .int .u8 b, .int .u8 c, .int .u8 d] 5)) :=
  conv_new w [a, b, c, d] 4 rfl _ rfl
theorem be_succ (k n q : Nat) (h : n / 256 ^ k = q) : be (k + 1) n = UInt8.ofNat (q % 256) :: be k n := by subst h; rfl
theorem div_succ (k n q : Nat) (h : n / 256 ^ k = q) : n / 256 ^ (k + 1) = q / 256 := by rw [Nat.pow_succ, ← Nat.div_div_eq_div_mul, h]

set_option maxHeartbeats 400000 in
theorem refNumber (n k : Nat) (w : World) (hn : n ≤ 4611686018427387904) (hk : k ≤ 100) :
    Calls Try.prog 51 #[.int .i64 n, .int .i64 k] w fun e w' => e = .returned (.string (B (be k n))) ∧ Below w.heap.size w w' := by
  have hc := conv1
  go_enter Try.func51, Try.ntmps51
  go_wp2
  go_loopw [0, 5, 6] (fun m s i wr => ∃ j : Nat, j ≤ k ∧ i = .int .i64 j ∧ m = .int .i64 ((n / 256 ^ j : Nat) : Int) ∧ s = .string (B (be j n)) ∧ Below w.heap.size w wr) (fun _ _ i _ => k - (intOf i).toNat)
  case atStart => exact ⟨0, Nat.zero_le _, rfl, by simp, rfl, Below.refl _ _⟩
  case round =>
    obtain ⟨j, hj, rfl, rfl, rfl, hb⟩ := hrel
    by_cases hlt : j < k
    · have h1 : n / 256 ^ j ≤ n := Nat.div_le_self _ _
      generalize hq : n / 256 ^ j = q at *
      have HQ : Hid (n / 256 ^ j = q) := hq
      clear hq
      go_wp2
      refine ⟨⟨j + 1, by omega, val_int (by omega), ?_, ?_, hb.alloc hb.size _⟩, by simp [intOf]; omega⟩
      · rw [div_succ j n q HQ.out]; exact val_int (by omega)
      · rw [be_succ j n q HQ.out]
    · have hkk : j = k := by omega
      subst hkk
      go_wp2
      go_ret
      exact ⟨rfl, hb⟩
end Go.Proofs.Ytcbbnmodjnnbeaa
