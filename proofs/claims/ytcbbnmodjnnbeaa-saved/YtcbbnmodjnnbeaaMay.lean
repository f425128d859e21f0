/- The walk of the document's own test of records. -/
import Derived.Test.YtcbbnmodjnnbeaaKnown
set_option linter.unusedSimpArgs false
set_option linter.unusedVariables false
namespace Go.Proofs.Ytcbbnmodjnnbeaa
open Go.RowKit

theorem may_term (r : Rec) (h : (!decide (0 ≤ r.term)) = true ∨ (!decide (r.term ≤ 1000000)) = true) : r.may = false := by
  have h1 : numB r.term = false := by simp at h; simp [numB]; omega
  simp [Rec.may, h1]
set_option maxHeartbeats 1000000 in
theorem refMayRec (r : Rec) (w : World) :
    Calls Try.prog 50 #[(.agg #[.int .i64 r.kind, .int .i64 r.gen, .int .i64 r.index, .int .i64 r.term, .int .i64 r.vote, .int .i64 r.many, .int .i64 r.cmd.kind, .string r.cmd.key, .string r.cmd.val, .string r.cmd.old, .int .i64 r.cmd.rev, .int .i64 r.cmd.ses, .int .i64 r.cmd.seq, .string r.data])] w fun e w' => e = .returned (.bool r.may) ∧ Below w.heap.size w w' := by
  have hd := noB_isEmpty r.data
  have heq0 : ∀ w, (binOp .eql 23 (.agg #[.int .i64 r.cmd.kind, .string r.cmd.key, .string r.cmd.val, .string r.cmd.old, .int .i64 r.cmd.rev, .int .i64 r.cmd.ses, .int .i64 r.cmd.seq]) (.agg #[.int .i64 0, .string ⟨#[]⟩, .string ⟨#[]⟩, .string ⟨#[]⟩, .int .i64 0, .int .i64 0, .int .i64 0])).run Try.prog w = .ok (.bool (Cmd.same r.cmd Cmd.zero)) w := fun w => eql_cmd r.cmd Cmd.zero w
  go_enter Try.func50, Try.ntmps50
  go_wp2_with (first | (go_at_call 105; refine (refMay _ _ _).mono ?_; rintro e w1 ⟨rfl, rfl⟩) | (go_at_call 106; refine (refKnown r.cmd _).mono ?_; rintro e w1 ⟨rfl, hb1⟩; obtain ⟨hc1, hf1⟩ := bcell hb1))
  all_goals
    go_ret
    refine ⟨ret_bool ?_, ?_⟩
  all_goals go_light
  all_goals clear hd heq0
  all_goals first
    | exact (Below.refl _ _).alloc (Nat.le_refl _) _
    | exact ((Below.refl _ _).alloc (Nat.le_refl _) _).trans (hb1.mono (by simp))
    | (rw [may_term r (by assumption)]; done)
    | (simp_all [Rec.may, numB]; done)
    | (simp_all [Rec.may, numB]; omega)
end Go.Proofs.Ytcbbnmodjnnbeaa
