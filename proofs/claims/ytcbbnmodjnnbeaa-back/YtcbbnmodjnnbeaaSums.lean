/- Plain lists of bytes and numbers: what the bytes of a record are. No program in it. -/
import Derived.Test.YtcbbnmodjnnbeaaProg
import Derived.WalkKit
import Derived.WalkSpells
import Derived.WalkLawsBesides
set_option linter.unusedSimpArgs false
set_option linter.unusedVariables false
namespace Go.Proofs.Ytcbbnmodjnnbeaa.By

/-- One step of the sum: a and b. -/
def sumStep (p : Nat × Nat) (c : UInt8) : Nat × Nat := ((p.1 + c.toNat) % 65521, (p.2 + (p.1 + c.toNat) % 65521) % 65521)
def sumPair (l : List UInt8) : Nat × Nat := l.foldl sumStep (1, 0)
def sum (l : List UInt8) : Nat := 65536 * (sumPair l).2 + (sumPair l).1

theorem sumStep_lt (p : Nat × Nat) (c : UInt8) : (sumStep p c).1 < 65521 ∧ (sumStep p c).2 < 65521 := by
  unfold sumStep; exact ⟨Nat.mod_lt _ (by omega), Nat.mod_lt _ (by omega)⟩
theorem sumPair_snoc (l : List UInt8) (c : UInt8) : sumPair (l ++ [c]) = sumStep (sumPair l) c := by
  unfold sumPair; rw [List.foldl_append]; rfl
theorem foldl_lt (l : List UInt8) : ∀ p : Nat × Nat, p.1 < 65521 → p.2 < 65521 → (l.foldl sumStep p).1 < 65521 ∧ (l.foldl sumStep p).2 < 65521 := by
  induction l with
  | nil => exact fun p h1 h2 => ⟨h1, h2⟩
  | cons c l ih => exact fun p _ _ => ih _ (sumStep_lt p c).1 (sumStep_lt p c).2
theorem sumPair_lt (l : List UInt8) : (sumPair l).1 < 65521 ∧ (sumPair l).2 < 65521 := foldl_lt l _ (by decide) (by decide)
theorem sum_lt (l : List UInt8) : sum l < 4294967296 := by have := sumPair_lt l; unfold sum; omega

end Go.Proofs.Ytcbbnmodjnnbeaa.By
/- The walks of both Sums: what they come to. -/
set_option linter.unusedSimpArgs false
set_option linter.unusedVariables false
namespace Go.Proofs.Ytcbbnmodjnnbeaa
open Go.RowKit

theorem ret_int {k : IntKind} {a b : Int} (h : a = b) : Ending.returned (.int k a) = .returned (.int k b) := by rw [h]
theorem take_snoc (s : ByteArray) (k : Nat) (h : k < s.size) : s.data.toList.take (k + 1) = s.data.toList.take k ++ [s[k]] := by
  rw [List.take_succ_eq_append_getElem (by simpa using h)]; rfl

theorem val_int {k : IntKind} {a b : Int} (h : a = b) : Value.int k a = Value.int k b := by rw [h]

set_option maxHeartbeats 400000 in
theorem codecSum (s : ByteArray) (w : World) (hs : s.size ≤ maxLen) :
    Calls Try.prog 12 #[.string s] w fun e w' => e = .returned (.int .i64 (By.sum s.data.toList)) ∧ w' = w := by
  unfold maxLen at hs
  go_enter Try.func12, Try.ntmps12
  go_wp2
  go_loop [3, 4, 8] (fun a b i => ∃ k : Nat, k ≤ s.size ∧ i = .int .i64 k ∧ a = .int .i64 (By.sumPair (s.data.toList.take k)).1 ∧ b = .int .i64 (By.sumPair (s.data.toList.take k)).2) (fun _ _ i => s.size - (intOf i).toNat)
  case atStart => exact ⟨0, Nat.zero_le _, rfl, rfl, rfl⟩
  case round =>
    obtain ⟨k, hk, rfl, rfl, rfl⟩ := hrel
    by_cases hlt : k < s.size
    · have hb := By.sumPair_lt (s.data.toList.take k)
      have HS : Hid (By.sumPair (s.data.toList.take (k + 1)) = By.sumStep (By.sumPair (s.data.toList.take k)) s[k]) := by rw [take_snoc s k hlt]; exact By.sumPair_snoc _ _
      generalize By.sumPair (s.data.toList.take k) = p at *
      have h1 := hb.1
      have h2 := hb.2
      have h3 : (s[k].toNat : Int) < 256 := by have := s[k].toNat_lt; omega
      clear hb
      go_wp2
      refine ⟨⟨k + 1, by omega, val_int (by omega), ?_, ?_⟩, by simp [intOf]; omega⟩
      · rw [HS.out]; exact val_int (by simp [By.sumStep])
      · rw [HS.out]; exact val_int (by simp [By.sumStep])
    · have hkk : k = s.size := by omega
      subst hkk
      have hb := By.sumPair_lt (s.data.toList.take s.size)
      go_wp2
      go_ret
      exact ⟨ret_int (by rw [List.take_of_length_le (by simp)]; unfold By.sum; omega), rfl⟩

set_option maxHeartbeats 400000 in
theorem refSum (s : ByteArray) (w : World) (hs : s.size ≤ maxLen) :
    Calls Try.prog 13 #[.string s] w fun e w' => e = .returned (.int .i64 (By.sum s.data.toList)) ∧ w' = w := by
  unfold maxLen at hs
  go_enter Try.func13, Try.ntmps13
  go_wp2
  go_loop [3, 4, 5] (fun a b i => ∃ k : Nat, k ≤ s.size ∧ i = .int .i64 k ∧ a = .int .i64 (By.sumPair (s.data.toList.take k)).1 ∧ b = .int .i64 (By.sumPair (s.data.toList.take k)).2) (fun _ _ i => s.size - (intOf i).toNat)
  case atStart => exact ⟨0, Nat.zero_le _, rfl, rfl, rfl⟩
  case round =>
    obtain ⟨k, hk, rfl, rfl, rfl⟩ := hrel
    by_cases hlt : k < s.size
    · have hb := By.sumPair_lt (s.data.toList.take k)
      have HS : Hid (By.sumPair (s.data.toList.take (k + 1)) = By.sumStep (By.sumPair (s.data.toList.take k)) s[k]) := by rw [take_snoc s k hlt]; exact By.sumPair_snoc _ _
      generalize By.sumPair (s.data.toList.take k) = p at *
      have h1 := hb.1
      have h2 := hb.2
      have h3 : (s[k].toNat : Int) < 256 := by have := s[k].toNat_lt; omega
      clear hb
      go_wp2
      refine ⟨⟨k + 1, by omega, val_int (by omega), ?_, ?_⟩, by simp [intOf]; omega⟩
      · rw [HS.out]; exact val_int (by simp [By.sumStep])
      · rw [HS.out]; exact val_int (by simp [By.sumStep])
    · have hkk : k = s.size := by omega
      subst hkk
      have hb := By.sumPair_lt (s.data.toList.take s.size)
      go_wp2
      go_ret
      exact ⟨ret_int (by rw [List.take_of_length_le (by simp)]; unfold By.sum; omega), rfl⟩

end Go.Proofs.Ytcbbnmodjnnbeaa
