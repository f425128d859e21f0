/- The walk of the program's own test of records. -/
import Derived.Test.YtcbbnmodjnnbeaaPreds
set_option linter.unusedSimpArgs false
set_option linter.unusedVariables false
namespace Go.Proofs.Ytcbbnmodjnnbeaa
open Go.RowKit

theorem same_own2 (r : Rec) : Rec.same r ⟨2, 0, 0, r.term, r.vote, 0, Cmd.zero, ⟨#[]⟩⟩ = ((r.kind == 2) && ((r.gen == 0) && ((r.index == 0) && ((r.many == 0) && (Cmd.same r.cmd Cmd.zero && noB r.data))))) := by
  have h : (r.data == (⟨#[]⟩ : ByteArray)) = noB r.data := by
    rw [beq_toListBytes, ← noB_isEmpty, ByteArray.toList_eq, ByteArray.toList_eq]; obtain ⟨⟨l⟩⟩ := r.data; cases l <;> rfl
  simp only [Rec.same, h, beq_self_eq_true, Bool.true_and]
theorem same_own3 (r : Rec) : Rec.same r ⟨3, 0, r.index, r.term, 0, 0, r.cmd, ⟨#[]⟩⟩ = ((r.kind == 3) && ((r.gen == 0) && ((r.vote == 0) && ((r.many == 0) && noB r.data)))) := by
  have h : (r.data == (⟨#[]⟩ : ByteArray)) = noB r.data := by
    rw [beq_toListBytes, ← noB_isEmpty, ByteArray.toList_eq, ByteArray.toList_eq]; obtain ⟨⟨l⟩⟩ := r.data; cases l <;> rfl
  have hc : Cmd.same r.cmd r.cmd = true := (Cmd.same_iff _ _).2 rfl
  simp only [Rec.same, h, hc, beq_self_eq_true, Bool.true_and]

set_option maxHeartbeats 1000000 in
theorem codecMayBe (r : Rec) (w : World) :
    Calls Try.prog 47 #[(.agg #[.int .i64 r.kind, .int .i64 r.gen, .int .i64 r.index, .int .i64 r.term, .int .i64 r.vote, .int .i64 r.many, .int .i64 r.cmd.kind, .string r.cmd.key, .string r.cmd.val, .string r.cmd.old, .int .i64 r.cmd.rev, .int .i64 r.cmd.ses, .int .i64 r.cmd.seq, .string r.data])] w fun e w' => e = .returned (.bool r.may) ∧ Below w.heap.size w w' := by
  have hd := noB_isEmpty r.data
  have heq0 : ∀ w, (binOp .eql 23 (.agg #[.int .i64 r.cmd.kind, .string r.cmd.key, .string r.cmd.val, .string r.cmd.old, .int .i64 r.cmd.rev, .int .i64 r.cmd.ses, .int .i64 r.cmd.seq]) (.agg #[.int .i64 0, .string ⟨#[]⟩, .string ⟨#[]⟩, .string ⟨#[]⟩, .int .i64 0, .int .i64 0, .int .i64 0])).run Try.prog w = .ok (.bool (Cmd.same r.cmd Cmd.zero)) w := fun w => eql_cmd r.cmd Cmd.zero w
  have heq2 : ∀ w, (binOp .eql 25 (.agg #[.int .i64 r.kind, .int .i64 r.gen, .int .i64 r.index, .int .i64 r.term, .int .i64 r.vote, .int .i64 r.many, .int .i64 r.cmd.kind, .string r.cmd.key, .string r.cmd.val, .string r.cmd.old, .int .i64 r.cmd.rev, .int .i64 r.cmd.ses, .int .i64 r.cmd.seq, .string r.data]) (.agg #[.int .i64 2, .int .i64 0, .int .i64 0, .int .i64 r.term, .int .i64 r.vote, .int .i64 0, .int .i64 0, .string ⟨#[]⟩, .string ⟨#[]⟩, .string ⟨#[]⟩, .int .i64 0, .int .i64 0, .int .i64 0, .string ⟨#[]⟩])).run Try.prog w = .ok (.bool (Rec.same r ⟨2, 0, 0, r.term, r.vote, 0, Cmd.zero, ⟨#[]⟩⟩)) w := fun w => eql_rec r ⟨2, 0, 0, r.term, r.vote, 0, Cmd.zero, ⟨#[]⟩⟩ w
  have heq3 : ∀ w, (binOp .eql 25 (.agg #[.int .i64 r.kind, .int .i64 r.gen, .int .i64 r.index, .int .i64 r.term, .int .i64 r.vote, .int .i64 r.many, .int .i64 r.cmd.kind, .string r.cmd.key, .string r.cmd.val, .string r.cmd.old, .int .i64 r.cmd.rev, .int .i64 r.cmd.ses, .int .i64 r.cmd.seq, .string r.data]) (.agg #[.int .i64 3, .int .i64 0, .int .i64 r.index, .int .i64 r.term, .int .i64 0, .int .i64 0, .int .i64 r.cmd.kind, .string r.cmd.key, .string r.cmd.val, .string r.cmd.old, .int .i64 r.cmd.rev, .int .i64 r.cmd.ses, .int .i64 r.cmd.seq, .string ⟨#[]⟩])).run Try.prog w = .ok (.bool (Rec.same r ⟨3, 0, r.index, r.term, 0, 0, r.cmd, ⟨#[]⟩⟩)) w := fun w => eql_rec r ⟨3, 0, r.index, r.term, 0, 0, r.cmd, ⟨#[]⟩⟩ w
  go_enter Try.func47, Try.ntmps47
  go_wp2_with (first | (go_at_call 79; refine (checkNumber _ _).mono ?_; rintro e w1 ⟨rfl, rfl⟩) | (go_at_call 71; refine (checkCommand r.cmd _).mono ?_; rintro e w1 ⟨rfl, hb1⟩; obtain ⟨hc1, hf1⟩ := bcell hb1))
  all_goals
    go_ret
    refine ⟨ret_bool ?_, ?_⟩
  all_goals go_light
  all_goals clear hd heq0 heq2 heq3
  all_goals first
    | exact (Below.refl _ _).alloc (Nat.le_refl _) _
    | exact (((Below.refl _ _).alloc (Nat.le_refl _) _).alloc (by simp) _).setCell (by simp) _
    | exact ((Below.refl _ _).alloc (Nat.le_refl _) _).alloc (by simp) _
    | exact (((Below.refl _ _).alloc (Nat.le_refl _) _).alloc (by simp) _).trans (hb1.mono (by simp; omega))
    | (simp_all [same_own2, same_own3, Rec.may]; done)
    | (simp_all [same_own2, same_own3, Rec.may]; intros; omega)
    | (simp_all [same_own2, same_own3, Rec.may]; intros; simp_all; done)
end Go.Proofs.Ytcbbnmodjnnbeaa
