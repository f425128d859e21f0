/- The marks that the law's book writes: their cells; that a mark is not another one than itself. -/
import Derived.Test.YtcbbnmodjnnbeaaEqs
import Derived.Test.YtcbbnmodjnnbeaaBook
set_option linter.unusedSimpArgs false
set_option linter.unusedVariables false
namespace Go.Proofs.Ytcbbnmodjnnbeaa
open Go.RowKit

def mkRes (k : Nat) : List Value := [.bool false, .int .i64 (-9 - (k : Int)), .bool false]
theorem mkRes_len (k : Nat) : (mkRes k).length = 3 := rfl
theorem mkRes_at {w : World} {b k : Nat} {t : TypeId} {m : Nat × Nat} (h : w.heap[b]? = some (.cells (mkRes k).toArray t m)) :
    w.cell? ⟨b, 0, none⟩ = some (.bool false) ∧ w.cell? ⟨b, 1, none⟩ = some (.int .i64 (-9 - (k : Int))) ∧ w.cell? ⟨b, 2, none⟩ = some (.bool false) := by
  refine ⟨?_, ?_, ?_⟩ <;> (simp only [World.cell?, h]; rfl)
theorem mkRes_off {w : World} {b p k : Nat} (h : w.rangeAt b p (mkRes k)) :
    w.cell? ⟨b, p, none⟩ = some (.bool false) ∧ w.cell? ⟨b, p + 1, none⟩ = some (.int .i64 (-9 - (k : Int))) ∧ w.cell? ⟨b, p + 2, none⟩ = some (.bool false) :=
  ⟨h 0 _ rfl, h 1 _ rfl, h 2 _ rfl⟩
theorem mkRes_one (k : Nat) : ∀ u ∈ mkRes k, u.oneCell' = true := by
  intro u hu
  simp only [mkRes, List.mem_cons, List.not_mem_nil, or_false] at hu
  rcases hu with rfl | rfl | rfl <;> rfl
theorem mkRes_neq (k : Nat) (w : World) : (binOp .neq 72 (.agg #[.bool false, .int .i64 (-9 - (k : Int)), .bool false]) (.agg #[.bool false, .int .i64 (-9 - (k : Int)), .bool false])).run Try.prog w = .ok (.bool false) w := by
  have h := neq_res ⟨false, -9 - (k : Int), false⟩ ⟨false, -9 - (k : Int), false⟩ w
  rw [(Res.same_iff _ _).2 rfl] at h
  exact h

def mkFnd (k : Nat) : List Value := [.string ⟨#[]⟩, .string ⟨#[]⟩, .int .i64 (-9 - (k : Int))]
theorem mkFnd_len (k : Nat) : (mkFnd k).length = 3 := rfl
theorem mkFnd_at {w : World} {b k : Nat} {t : TypeId} {m : Nat × Nat} (h : w.heap[b]? = some (.cells (mkFnd k).toArray t m)) :
    w.cell? ⟨b, 0, none⟩ = some (.string ⟨#[]⟩) ∧ w.cell? ⟨b, 1, none⟩ = some (.string ⟨#[]⟩) ∧ w.cell? ⟨b, 2, none⟩ = some (.int .i64 (-9 - (k : Int))) := by
  refine ⟨?_, ?_, ?_⟩ <;> (simp only [World.cell?, h]; rfl)
theorem mkFnd_off {w : World} {b p k : Nat} (h : w.rangeAt b p (mkFnd k)) :
    w.cell? ⟨b, p, none⟩ = some (.string ⟨#[]⟩) ∧ w.cell? ⟨b, p + 1, none⟩ = some (.string ⟨#[]⟩) ∧ w.cell? ⟨b, p + 2, none⟩ = some (.int .i64 (-9 - (k : Int))) :=
  ⟨h 0 _ rfl, h 1 _ rfl, h 2 _ rfl⟩
theorem mkFnd_one (k : Nat) : ∀ u ∈ mkFnd k, u.oneCell' = true := by
  intro u hu
  simp only [mkFnd, List.mem_cons, List.not_mem_nil, or_false] at hu
  rcases hu with rfl | rfl | rfl <;> rfl
theorem mkFnd_neq (k : Nat) (w : World) : (binOp .neq 131 (.agg #[.string ⟨#[]⟩, .string ⟨#[]⟩, .int .i64 (-9 - (k : Int))]) (.agg #[.string ⟨#[]⟩, .string ⟨#[]⟩, .int .i64 (-9 - (k : Int))])).run Try.prog w = .ok (.bool false) w := by
  have h := neq_fnd ⟨⟨#[]⟩, ⟨#[]⟩, -9 - (k : Int)⟩ ⟨⟨#[]⟩, ⟨#[]⟩, -9 - (k : Int)⟩ w
  rw [(Fnd.same_iff _ _).2 rfl] at h
  exact h

def mkEty (k : Nat) : List Value := [.int .i64 (-9 - (k : Int)), .int .i64 0, .string ⟨#[]⟩, .string ⟨#[]⟩, .string ⟨#[]⟩, .int .i64 0, .int .i64 0, .int .i64 0]
theorem mkEty_len (k : Nat) : (mkEty k).length = 8 := rfl
theorem mkEty_at {w : World} {b k : Nat} {t : TypeId} {m : Nat × Nat} (h : w.heap[b]? = some (.cells (mkEty k).toArray t m)) :
    w.cell? ⟨b, 0, none⟩ = some (.int .i64 (-9 - (k : Int))) ∧ w.cell? ⟨b, 1, none⟩ = some (.int .i64 0) ∧ w.cell? ⟨b, 2, none⟩ = some (.string ⟨#[]⟩) ∧ w.cell? ⟨b, 3, none⟩ = some (.string ⟨#[]⟩) ∧ w.cell? ⟨b, 4, none⟩ = some (.string ⟨#[]⟩) ∧ w.cell? ⟨b, 5, none⟩ = some (.int .i64 0) ∧ w.cell? ⟨b, 6, none⟩ = some (.int .i64 0) ∧ w.cell? ⟨b, 7, none⟩ = some (.int .i64 0) := by
  refine ⟨?_, ?_, ?_, ?_, ?_, ?_, ?_, ?_⟩ <;> (simp only [World.cell?, h]; rfl)
theorem mkEty_off {w : World} {b p k : Nat} (h : w.rangeAt b p (mkEty k)) :
    w.cell? ⟨b, p, none⟩ = some (.int .i64 (-9 - (k : Int))) ∧ w.cell? ⟨b, p + 1, none⟩ = some (.int .i64 0) ∧ w.cell? ⟨b, p + 2, none⟩ = some (.string ⟨#[]⟩) ∧ w.cell? ⟨b, p + 3, none⟩ = some (.string ⟨#[]⟩) ∧ w.cell? ⟨b, p + 4, none⟩ = some (.string ⟨#[]⟩) ∧ w.cell? ⟨b, p + 5, none⟩ = some (.int .i64 0) ∧ w.cell? ⟨b, p + 6, none⟩ = some (.int .i64 0) ∧ w.cell? ⟨b, p + 7, none⟩ = some (.int .i64 0) :=
  ⟨h 0 _ rfl, h 1 _ rfl, h 2 _ rfl, h 3 _ rfl, h 4 _ rfl, h 5 _ rfl, h 6 _ rfl, h 7 _ rfl⟩
theorem mkEty_one (k : Nat) : ∀ u ∈ mkEty k, u.oneCell' = true := by
  intro u hu
  simp only [mkEty, List.mem_cons, List.not_mem_nil, or_false] at hu
  rcases hu with rfl | rfl | rfl | rfl | rfl | rfl | rfl | rfl <;> rfl
theorem mkEty_neq (k : Nat) (w : World) : (binOp .neq 135 (.agg #[.int .i64 (-9 - (k : Int)), .int .i64 0, .string ⟨#[]⟩, .string ⟨#[]⟩, .string ⟨#[]⟩, .int .i64 0, .int .i64 0, .int .i64 0]) (.agg #[.int .i64 (-9 - (k : Int)), .int .i64 0, .string ⟨#[]⟩, .string ⟨#[]⟩, .string ⟨#[]⟩, .int .i64 0, .int .i64 0, .int .i64 0])).run Try.prog w = .ok (.bool false) w := by
  have h := neq_entry ⟨-9 - (k : Int), 0, ⟨#[]⟩, ⟨#[]⟩, ⟨#[]⟩, 0, 0, 0⟩ ⟨-9 - (k : Int), 0, ⟨#[]⟩, ⟨#[]⟩, ⟨#[]⟩, 0, 0, 0⟩ w
  rw [(Entry.same_iff _ _).2 rfl] at h
  exact h

def mkRec (k : Nat) : List Value := [.int .i64 (-9 - (k : Int)), .int .i64 0, .int .i64 0, .int .i64 0, .int .i64 0, .int .i64 0, .int .i64 0, .string ⟨#[]⟩, .string ⟨#[]⟩, .string ⟨#[]⟩, .int .i64 0, .int .i64 0, .int .i64 0, .string ⟨#[]⟩]
theorem mkRec_len (k : Nat) : (mkRec k).length = 14 := rfl
theorem mkRec_at {w : World} {b k : Nat} {t : TypeId} {m : Nat × Nat} (h : w.heap[b]? = some (.cells (mkRec k).toArray t m)) :
    w.cell? ⟨b, 0, none⟩ = some (.int .i64 (-9 - (k : Int))) ∧ w.cell? ⟨b, 1, none⟩ = some (.int .i64 0) ∧ w.cell? ⟨b, 2, none⟩ = some (.int .i64 0) ∧ w.cell? ⟨b, 3, none⟩ = some (.int .i64 0) ∧ w.cell? ⟨b, 4, none⟩ = some (.int .i64 0) ∧ w.cell? ⟨b, 5, none⟩ = some (.int .i64 0) ∧ w.cell? ⟨b, 6, none⟩ = some (.int .i64 0) ∧ w.cell? ⟨b, 7, none⟩ = some (.string ⟨#[]⟩) ∧ w.cell? ⟨b, 8, none⟩ = some (.string ⟨#[]⟩) ∧ w.cell? ⟨b, 9, none⟩ = some (.string ⟨#[]⟩) ∧ w.cell? ⟨b, 10, none⟩ = some (.int .i64 0) ∧ w.cell? ⟨b, 11, none⟩ = some (.int .i64 0) ∧ w.cell? ⟨b, 12, none⟩ = some (.int .i64 0) ∧ w.cell? ⟨b, 13, none⟩ = some (.string ⟨#[]⟩) := by
  refine ⟨?_, ?_, ?_, ?_, ?_, ?_, ?_, ?_, ?_, ?_, ?_, ?_, ?_, ?_⟩ <;> (simp only [World.cell?, h]; rfl)
theorem mkRec_off {w : World} {b p k : Nat} (h : w.rangeAt b p (mkRec k)) :
    w.cell? ⟨b, p, none⟩ = some (.int .i64 (-9 - (k : Int))) ∧ w.cell? ⟨b, p + 1, none⟩ = some (.int .i64 0) ∧ w.cell? ⟨b, p + 2, none⟩ = some (.int .i64 0) ∧ w.cell? ⟨b, p + 3, none⟩ = some (.int .i64 0) ∧ w.cell? ⟨b, p + 4, none⟩ = some (.int .i64 0) ∧ w.cell? ⟨b, p + 5, none⟩ = some (.int .i64 0) ∧ w.cell? ⟨b, p + 6, none⟩ = some (.int .i64 0) ∧ w.cell? ⟨b, p + 7, none⟩ = some (.string ⟨#[]⟩) ∧ w.cell? ⟨b, p + 8, none⟩ = some (.string ⟨#[]⟩) ∧ w.cell? ⟨b, p + 9, none⟩ = some (.string ⟨#[]⟩) ∧ w.cell? ⟨b, p + 10, none⟩ = some (.int .i64 0) ∧ w.cell? ⟨b, p + 11, none⟩ = some (.int .i64 0) ∧ w.cell? ⟨b, p + 12, none⟩ = some (.int .i64 0) ∧ w.cell? ⟨b, p + 13, none⟩ = some (.string ⟨#[]⟩) :=
  ⟨h 0 _ rfl, h 1 _ rfl, h 2 _ rfl, h 3 _ rfl, h 4 _ rfl, h 5 _ rfl, h 6 _ rfl, h 7 _ rfl, h 8 _ rfl, h 9 _ rfl, h 10 _ rfl, h 11 _ rfl, h 12 _ rfl, h 13 _ rfl⟩
theorem mkRec_one (k : Nat) : ∀ u ∈ mkRec k, u.oneCell' = true := by
  intro u hu
  simp only [mkRec, List.mem_cons, List.not_mem_nil, or_false] at hu
  rcases hu with rfl | rfl | rfl | rfl | rfl | rfl | rfl | rfl | rfl | rfl | rfl | rfl | rfl | rfl <;> rfl
theorem mkRec_neq (k : Nat) (w : World) : (binOp .neq 25 (.agg #[.int .i64 (-9 - (k : Int)), .int .i64 0, .int .i64 0, .int .i64 0, .int .i64 0, .int .i64 0, .int .i64 0, .string ⟨#[]⟩, .string ⟨#[]⟩, .string ⟨#[]⟩, .int .i64 0, .int .i64 0, .int .i64 0, .string ⟨#[]⟩]) (.agg #[.int .i64 (-9 - (k : Int)), .int .i64 0, .int .i64 0, .int .i64 0, .int .i64 0, .int .i64 0, .int .i64 0, .string ⟨#[]⟩, .string ⟨#[]⟩, .string ⟨#[]⟩, .int .i64 0, .int .i64 0, .int .i64 0, .string ⟨#[]⟩])).run Try.prog w = .ok (.bool false) w := by
  have h := neq_rec ⟨-9 - (k : Int), 0, 0, 0, 0, 0, ⟨0, ⟨#[]⟩, ⟨#[]⟩, ⟨#[]⟩, 0, 0, 0⟩, ⟨#[]⟩⟩ ⟨-9 - (k : Int), 0, 0, 0, 0, 0, ⟨0, ⟨#[]⟩, ⟨#[]⟩, ⟨#[]⟩, 0, 0, 0⟩, ⟨#[]⟩⟩ w
  rw [(Rec.same_iff _ _).2 rfl] at h
  exact h

theorem book_cells {w : World} {bp : Nat} {a b c d : Value} {t : TypeId} (h : w.heap[bp]? = some (.cells #[a, b, c, d] t)) :
    w.cell? ⟨bp, 0, none⟩ = some a ∧ w.cell? ⟨bp, 1, none⟩ = some b ∧ w.cell? ⟨bp, 2, none⟩ = some c ∧ w.cell? ⟨bp, 3, none⟩ = some d ∧ ∀ o, w.frozen? ⟨bp, o, none⟩ = false := by
  refine ⟨?_, ?_, ?_, ?_, fun o => ?_⟩
  · simp only [World.cell?, h]; rfl
  · simp only [World.cell?, h]; rfl
  · simp only [World.cell?, h]; rfl
  · simp only [World.cell?, h]; rfl
  · simp [World.frozen?, h]
def Held (p : Prop) : Prop := p
theorem Held.out {p : Prop} (h : Held p) : p := h
end Go.Proofs.Ytcbbnmodjnnbeaa
