/- The walk of the document's own test of commands. -/
import Derived.Test.YtcbbnmodjnnbeaaPreds
set_option linter.unusedSimpArgs false
set_option linter.unusedVariables false
namespace Go.Proofs.Ytcbbnmodjnnbeaa
open Go.RowKit

set_option maxHeartbeats 1000000 in
theorem refKnown_no (c : Cmd) (w : World) (hs : sesB c = false) :
    Calls Try.prog 106 #[(.agg #[.int .i64 c.kind, .string c.key, .string c.val, .string c.old, .int .i64 c.rev, .int .i64 c.ses, .int .i64 c.seq])] w fun e w' => e = .returned (.bool c.may) ∧ Below w.heap.size w w' := by
  rw [may_of_not_ses c hs]
  by_cases hr : 0 ≤ c.ses ∧ c.ses ≤ 8 ∧ 0 ≤ c.seq ∧ c.seq ≤ 1000000
  · obtain ⟨r1, r2, r3, r4⟩ := hr
    by_cases h1 : c.ses = 0
    · have h2 : ¬ c.seq = 0 := fun h2 => by simp [sesB, numB, h1, h2] at hs
      have g1 : (c.ses == 0) = true := by simp [h1]
      have g2 : (c.seq == 0) = false := by simp [h2]
      clear h1 h2 hs
      go_enter Try.func106, Try.ntmps106
      go_wp2
      go_ret
      exact ⟨rfl, (Below.refl _ _).alloc (Nat.le_refl _) _⟩
    · have h2 : c.seq = 0 := by
        by_cases h2 : c.seq = 0
        · exact h2
        · exfalso; have : sesB c = true := by rw [ses_parts]; exact ⟨r1, r2, r3, r4, by rw [beq_eq_false_iff_ne.2 h1, beq_eq_false_iff_ne.2 h2]⟩
          rw [this] at hs; exact Bool.noConfusion hs
      have g1 : (c.ses == 0) = false := by simp [h1]
      have g2 : (c.seq == 0) = true := by simp [h2]
      clear h1 h2 hs
      go_enter Try.func106, Try.ntmps106
      go_wp2
      go_ret
      exact ⟨rfl, (Below.refl _ _).alloc (Nat.le_refl _) _⟩
  · clear hs
    go_enter Try.func106, Try.ntmps106
    go_wp2_with fail
    all_goals first
      | (exfalso; go_light; omega)
      | (go_ret; exact ⟨rfl, (Below.refl _ _).alloc (Nat.le_refl _) _⟩)

set_option maxHeartbeats 1000000 in
theorem refKnown_yes (c : Cmd) (w : World) (hs : sesB c = true) :
    Calls Try.prog 106 #[(.agg #[.int .i64 c.kind, .string c.key, .string c.val, .string c.old, .int .i64 c.rev, .int .i64 c.ses, .int .i64 c.seq])] w fun e w' => e = .returned (.bool c.may) ∧ Below w.heap.size w w' := by
  have hk := noB_isEmpty c.key
  have hv := noB_isEmpty c.val
  have ho := noB_isEmpty c.old
  have HS : Hid (sesB c = true) := hs
  have hp := (ses_parts c).1 hs
  obtain ⟨r1, r2, r3, r4, r5⟩ := hp
  by_cases h1 : c.ses = 0
  · have g1 : (c.ses == 0) = true := by simp [h1]
    have g2 : (c.seq == 0) = true := by rw [← r5]; exact g1
    clear h1 r5 hs
    go_enter Try.func106, Try.ntmps106
    go_wp2_with (first | (go_at_call 147; refine (refValue _ _).mono ?_; rintro e w1 ⟨rfl, rfl⟩) | (go_at_call 146; refine (refKey _ _).mono ?_; rintro e w1 ⟨rfl, rfl⟩) | (go_at_call 105; refine (refMay _ _ _).mono ?_; rintro e w1 ⟨rfl, rfl⟩))
    all_goals
      go_ret
      refine ⟨ret_bool ?_, (Below.refl _ _).alloc (Nat.le_refl _) _⟩
      go_light
      have hs := HS.out
      clear hk hv ho HS
      simp_all [Cmd.may, same_zero, numB]
  · have g1 : (c.ses == 0) = false := by simp [h1]
    have g2 : (c.seq == 0) = false := by rw [← r5]; exact g1
    clear h1 r5 hs
    go_enter Try.func106, Try.ntmps106
    go_wp2_with (first | (go_at_call 147; refine (refValue _ _).mono ?_; rintro e w1 ⟨rfl, rfl⟩) | (go_at_call 146; refine (refKey _ _).mono ?_; rintro e w1 ⟨rfl, rfl⟩) | (go_at_call 105; refine (refMay _ _ _).mono ?_; rintro e w1 ⟨rfl, rfl⟩))
    all_goals
      go_ret
      refine ⟨ret_bool ?_, (Below.refl _ _).alloc (Nat.le_refl _) _⟩
      go_light
      have hs := HS.out
      clear hk hv ho HS
      simp_all [Cmd.may, same_zero, numB]
theorem refKnown (c : Cmd) (w : World) :
    Calls Try.prog 106 #[(.agg #[.int .i64 c.kind, .string c.key, .string c.val, .string c.old, .int .i64 c.rev, .int .i64 c.ses, .int .i64 c.seq])] w fun e w' => e = .returned (.bool c.may) ∧ Below w.heap.size w w' := by
  cases hs : sesB c
  · exact refKnown_no c w hs
  · exact refKnown_yes c w hs
end Go.Proofs.Ytcbbnmodjnnbeaa
