/- The walk of the document's own test of commands. -/
import Derived.Test.YtcbbnmodjnnbeaaPreds
set_option linter.unusedSimpArgs false
set_option linter.unusedVariables false
namespace Go.Proofs.Ytcbbnmodjnnbeaa
open Go.RowKit

set_option maxHeartbeats 1000000 in
theorem refKnown_no (c : Cmd) (w : World) (hs : sesB c = false) :
    Calls Try.prog 106 #[(.agg #[.int .i64 c.kind, .string c.key, .string c.val, .string c.old, .int .i64 c.rev, .int .i64 c.ses, .int .i64 c.seq])] w fun e w' => e = .returned (.bool c.may) ∧ Below w.heap.size w w' := by
  rw [may_of_not_ses c hs]
  by_cases hr : 0 ≤ c.ses ∧ c.ses ≤ 8 ∧ 0 ≤ c.seq ∧ c.seq ≤ 1000000
  · obtain ⟨r1, r2, r3, r4⟩ := hr
    by_cases h1 : c.ses = 0
    · have h2 : ¬ c.seq = 0 := fun h2 => by simp [sesB, numB, h1, h2] at hs
      have g1 : (c.ses == 0) = true := by simp [h1]
      have g2 : (c.seq == 0) = false := by simp [h2]
      clear h1 h2 hs
      go_enter Try.func106, Try.ntmps106
      go_wp2
      go_ret
      exact ⟨rfl, (Below.refl _ _).alloc (Nat.le_refl _) _⟩
    · have h2 : c.seq = 0 := by
        by_cases h2 : c.seq = 0
        · exact h2
        · exfalso; have : sesB c = true := by rw [ses_parts]; exact ⟨r1, r2, r3, r4, by rw [beq_eq_false_iff_ne.2 h1, beq_eq_false_iff_ne.2 h2]⟩
          rw [this] at hs; exact Bool.noConfusion hs
      have g1 : (c.ses == 0) = false := by simp [h1]
      have g2 : (c.seq == 0) = true := by simp [h2]
      clear h1 h2 hs
      go_enter Try.func106, Try.ntmps106
      go_wp2
      go_ret
      exact ⟨rfl, (Below.refl _ _).alloc (Nat.le_refl _) _⟩
  · clear hs
    go_enter Try.func106, Try.ntmps106
    go_wp2_with fail
    all_goals first
      | (exfalso; go_light; omega)
      | (go_ret; exact ⟨rfl, (Below.refl _ _).alloc (Nat.le_refl _) _⟩)

set_option maxHeartbeats 1000000 in
theorem refKnown_yes (c : Cmd) (w : World) (hs : sesB c = true) :
    Calls Try.prog 106 #[(.agg #[.int .i64 c.kind, .string c.key, .string c.val, .string c.old, .int .i64 c.rev, .int .i64 c.ses, .int .i64 c.seq])] w fun e w' => e = .returned (.bool c.may) ∧ Below w.heap.size w w' := by
  have hk := noB_isEmpty c.key
  have hv := noB_isEmpty c.val
  have ho := noB_isEmpty c.old
  have HS : Hid (sesB c = true) := hs
  have hp := (ses_parts c).1 hs
  obtain ⟨r1, r2, r3, r4, r5⟩ := hp
  by_cases h1 : c.ses = 0
  · have g1 : (c.ses == 0) = true := by simp [h1]
    have g2 : (c.seq == 0) = true := by rw [← r5]; exact g1
    clear h1 r5 hs
    go_enter Try.func106, Try.ntmps106
    go_wp2_with (first | (go_at_call 147; refine (refValue _ _).mono ?_; rintro e w1 ⟨rfl, rfl⟩) | (go_at_call 146; refine (refKey _ _).mono ?_; rintro e w1 ⟨rfl, rfl⟩) | (go_at_call 105; refine (refMay _ _ _).mono ?_; rintro e w1 ⟨rfl, rfl⟩))
    all_goals
      go_ret
      refine ⟨ret_bool ?_, (Below.refl _ _).alloc (Nat.le_refl _) _⟩
      go_light
      have hs := HS.out
      clear hk hv ho HS
      simp_all [Cmd.may, same_zero, numB]
  · have g1 : (c.ses == 0) = false := by simp [h1]
    have g2 : (c.seq == 0) = false := by rw [← r5]; exact g1
    clear h1 r5 hs
    go_enter Try.func106, Try.ntmps106
    go_wp2_with (first | (go_at_call 147; refine (refValue _ _).mono ?_; rintro e w1 ⟨rfl, rfl⟩) | (go_at_call 146; refine (refKey _ _).mono ?_; rintro e w1 ⟨rfl, rfl⟩) | (go_at_call 105; refine (refMay _ _ _).mono ?_; rintro e w1 ⟨rfl, rfl⟩))
    all_goals
      go_ret
      refine ⟨ret_bool ?_, (Below.refl _ _).alloc (Nat.le_refl _) _⟩
      go_light
      have hs := HS.out
      clear hk hv ho HS
      simp_all [Cmd.may, same_zero, numB]
theorem refKnown (c : Cmd) (w : World) :
    Calls Try.prog 106 #[(.agg #[.int .i64 c.kind, .string c.key, .string c.val, .string c.old, .int .i64 c.rev, .int .i64 c.ses, .int .i64 c.seq])] w fun e w' => e = .returned (.bool c.may) ∧ Below w.heap.size w w' := by
  cases hs : sesB c
  · exact refKnown_no c w hs
  · exact refKnown_yes c w hs
end Go.Proofs.Ytcbbnmodjnnbeaa
/- The walk of the document's own test of records. -/
set_option linter.unusedSimpArgs false
set_option linter.unusedVariables false
namespace Go.Proofs.Ytcbbnmodjnnbeaa
open Go.RowKit

theorem may_term (r : Rec) (h : (!decide (0 ≤ r.term)) = true ∨ (!decide (r.term ≤ 1000000)) = true) : r.may = false := by
  have h1 : numB r.term = false := by simp at h; simp [numB]; omega
  simp [Rec.may, h1]
set_option maxHeartbeats 1000000 in
theorem refMayRec (r : Rec) (w : World) :
    Calls Try.prog 50 #[(.agg #[.int .i64 r.kind, .int .i64 r.gen, .int .i64 r.index, .int .i64 r.term, .int .i64 r.vote, .int .i64 r.many, .int .i64 r.cmd.kind, .string r.cmd.key, .string r.cmd.val, .string r.cmd.old, .int .i64 r.cmd.rev, .int .i64 r.cmd.ses, .int .i64 r.cmd.seq, .string r.data])] w fun e w' => e = .returned (.bool r.may) ∧ Below w.heap.size w w' := by
  have hd := noB_isEmpty r.data
  have heq0 : ∀ w, (binOp .eql 23 (.agg #[.int .i64 r.cmd.kind, .string r.cmd.key, .string r.cmd.val, .string r.cmd.old, .int .i64 r.cmd.rev, .int .i64 r.cmd.ses, .int .i64 r.cmd.seq]) (.agg #[.int .i64 0, .string ⟨#[]⟩, .string ⟨#[]⟩, .string ⟨#[]⟩, .int .i64 0, .int .i64 0, .int .i64 0])).run Try.prog w = .ok (.bool (Cmd.same r.cmd Cmd.zero)) w := fun w => eql_cmd r.cmd Cmd.zero w
  go_enter Try.func50, Try.ntmps50
  go_wp2_with (first | (go_at_call 105; refine (refMay _ _ _).mono ?_; rintro e w1 ⟨rfl, rfl⟩) | (go_at_call 106; refine (refKnown r.cmd _).mono ?_; rintro e w1 ⟨rfl, hb1⟩; obtain ⟨hc1, hf1⟩ := bcell hb1))
  all_goals
    go_ret
    refine ⟨ret_bool ?_, ?_⟩
  all_goals go_light
  all_goals clear hd heq0
  all_goals first
    | exact (Below.refl _ _).alloc (Nat.le_refl _) _
    | exact ((Below.refl _ _).alloc (Nat.le_refl _) _).trans (hb1.mono (by simp))
    | (rw [may_term r (by assumption)]; done)
    | (simp_all [Rec.may, numB]; done)
    | (simp_all [Rec.may, numB]; omega)
end Go.Proofs.Ytcbbnmodjnnbeaa
