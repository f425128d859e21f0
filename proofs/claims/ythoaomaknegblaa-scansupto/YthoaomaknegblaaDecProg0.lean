/- The program's Decode of what is too short. -/
import Derived.Test.YthoaomaknegblaaDecProg
import Derived.BigQuiet
set_option linter.unusedSimpArgs false
set_option linter.unusedVariables false
namespace Go.Proofs.Ythoaomaknegblaa
open Go.RowKit
attribute [local go_sem] World.ext_ext
@[go_sem] theorem drewN_setCell (w : World) (n : Nat) (a : Addr) (v : Value) : (w.drewN n).setCell a v = (w.setCell a v).drewN n := rfl

set_option maxRecDepth 100000 in
set_option maxHeartbeats 6000000 in
theorem decode_short (s : ByteArray) (w : World) (h : s.size < 4) :
    Calls Try.prog 14 #[.string s] w fun e w' => ∃ q er, (q, er) = decP s.data.toList ∧ e = .returned (.tuple #[(.agg #[.int .i64 q.kind, .int .i64 q.gen, .int .i64 q.index, .int .i64 q.term, .int .i64 q.vote, .int .i64 q.many, .int .i64 q.cmd.kind, .string q.cmd.key, .string q.cmd.val, .string q.cmd.old, .int .i64 q.cmd.rev, .int .i64 q.cmd.ses, .int .i64 q.cmd.seq, .string q.data]), .int .i64 er]) ∧ Below w.heap.size w w' := by
  have hD : Hid (decP s.data.toList = (Rec.zero, 10)) := by show _ = _; unfold decP; rw [if_pos (by rw [len_data]; exact h)]
  have h4 : s.size = 0 ∨ s.size = 1 ∨ s.size = 2 ∨ s.size = 3 := by omega
  clear h
  rcases h4 with h | h | h | h
  all_goals
    go_enter Try.func14, Try.ntmps14
    go_wp2_with fail
    go_quiet (fail)
    go_wp2_with fail
    exact bodyPost_ret (v := .tuple #[.agg #[.int .i64 0, .int .i64 0, .int .i64 0, .int .i64 0, .int .i64 0, .int .i64 0, .int .i64 0, .string ⟨#[]⟩, .string ⟨#[]⟩, .string ⟨#[]⟩, .int .i64 0, .int .i64 0, .int .i64 0, .string ⟨#[]⟩], .int .i64 10]) (by simp [results, Try.results14, go_sem]) rfl ⟨Rec.zero, 10, hD.out.symm, rfl, ⟨rfl, rfl, rfl, by simp [World.drewN], fun k hk => Below.heap_alloc _ _ _ hk⟩⟩
end Go.Proofs.Ythoaomaknegblaa
