/- Plain lists of bytes and numbers: what the bytes of a record are. No program in it. -/
set_option linter.unusedSimpArgs false
set_option linter.unusedVariables false
namespace Go.Proofs.Ytcbbnmodjnnbeaa.By

/-- One step of the sum: a and b. -/
def sumStep (p : Nat × Nat) (c : UInt8) : Nat × Nat := ((p.1 + c.toNat) % 65521, (p.2 + (p.1 + c.toNat) % 65521) % 65521)
def sumPair (l : List UInt8) : Nat × Nat := l.foldl sumStep (1, 0)
def sum (l : List UInt8) : Nat := 65536 * (sumPair l).2 + (sumPair l).1

theorem sumStep_lt (p : Nat × Nat) (c : UInt8) : (sumStep p c).1 < 65521 ∧ (sumStep p c).2 < 65521 := by
  unfold sumStep; exact ⟨Nat.mod_lt _ (by omega), Nat.mod_lt _ (by omega)⟩
theorem sumPair_snoc (l : List UInt8) (c : UInt8) : sumPair (l ++ [c]) = sumStep (sumPair l) c := by
  unfold sumPair; rw [List.foldl_append]; rfl
theorem foldl_lt (l : List UInt8) : ∀ p : Nat × Nat, p.1 < 65521 → p.2 < 65521 → (l.foldl sumStep p).1 < 65521 ∧ (l.foldl sumStep p).2 < 65521 := by
  induction l with
  | nil => exact fun p h1 h2 => ⟨h1, h2⟩
  | cons c l ih => exact fun p _ _ => ih _ (sumStep_lt p c).1 (sumStep_lt p c).2
theorem sumPair_lt (l : List UInt8) : (sumPair l).1 < 65521 ∧ (sumPair l).2 < 65521 := foldl_lt l _ (by decide) (by decide)
theorem sum_lt (l : List UInt8) : sum l < 4294967296 := by have := sumPair_lt l; unfold sum; omega

end Go.Proofs.Ytcbbnmodjnnbeaa.By
