/- The program's Decode. -/
import Derived.Test.YtcbbnmodjnnbeaaRdRec2
import Derived.Test.YtcbbnmodjnnbeaaNewW
import Derived.Test.YtcbbnmodjnnbeaaLists2
import Derived.Test.YtcbbnmodjnnbeaaDecRef3
set_option linter.unusedSimpArgs false
set_option linter.unusedVariables false
namespace Go.Proofs.Ytcbbnmodjnnbeaa
open Go.RowKit
attribute [local go_sem] World.ext_ext

def decP (s : List UInt8) : Rec × Int :=
  if s.length < 4 then (Rec.zero, 10)
  else if s.drop (s.length - 4) ≠ be 4 (By.sum (s.take (s.length - 4))) then (Rec.zero, 10)
  else if (recLd (s.take (s.length - 4)) false).2 = ([], false) ∧ (recLd (s.take (s.length - 4)) false).1.may = true then ((recLd (s.take (s.length - 4)) false).1, 0)
  else (Rec.zero, 10)

set_option maxRecDepth 100000 in
set_option maxHeartbeats 1000000 in
theorem decode_unsealed (s : ByteArray) (w : World) (m : Nat) (hm : s.size = m + 4) (hlen : m ≤ 281474976710656) (hx : s.data.toList.drop m ≠ be 4 (By.sum (s.data.toList.take m))) :
    Calls Try.prog 16 #[.string s] w fun e w' => ∃ q er, (q, er) = decP s.data.toList ∧ e = .returned (.tuple #[(.agg #[.int .i64 q.kind, .int .i64 q.gen, .int .i64 q.index, .int .i64 q.term, .int .i64 q.vote, .int .i64 q.many, .int .i64 q.cmd.kind, .string q.cmd.key, .string q.cmd.val, .string q.cmd.old, .int .i64 q.cmd.rev, .int .i64 q.cmd.ses, .int .i64 q.cmd.seq, .string q.data]), .int .i64 er]) ∧ Below w.heap.size w w' := by
  have hn : s.data.toList.length - 4 = m := by rw [len_data]; omega
  have hn4 : ¬ s.data.toList.length < 4 := by rw [len_data]; omega
  have hD : Hid (decP s.data.toList = (Rec.zero, 10)) := by show _ = _; unfold decP; rw [if_neg hn4, hn, if_pos hx]
  have hX : (!(B (s.data.toList.drop m)).toList == (B (be 4 (By.sum (s.data.toList.take m)))).toList) = true := by
    rw [toList_cmp]
    cases hc : (B (s.data.toList.drop m) == B (be 4 (By.sum (s.data.toList.take m))))
    · rfl
    · exact absurd (B_inj ((beq_bytes _ _).1 hc)) hx
  clear hx
  have e1 : s.extract 0 m = B (s.data.toList.take m) := bytes_ext (by rw [extract_list]; simp [B_list])
  have e2 : s.extract m (m + 4) = B (s.data.toList.drop m) := bytes_ext (by rw [extract_list, B_list]; exact List.take_of_length_le (by simp; omega))
  have hd : decide ((m : Int) < 0) = false := decide_eq_false (by omega)
  have hl : (s.data.toList.take m).length ≤ maxLen := by simp; unfold maxLen; omega
  have hlb : (B (s.data.toList.take m)).size ≤ 281474976710656 := by rw [B_size]; simp; omega
  generalize s.data.toList.take m = body at *
  generalize s.data.toList.drop m = sl at *
  have hlb' : Hid ((B body).size ≤ 281474976710656) := hlb
  have hl' : Hid (body.length ≤ maxLen) := hl
  clear hlb hl hn hn4
  go_enter Try.func16, Try.ntmps16
  go_wp2_with fail
  refine wp_region_grows (by kernel_rfl) (by kernel_rfl) ?_
  repeat (first | quiet_step (fail) | (refine wpQuiet_step (fun K hK => ?_); go_simp; simp only [↓IntWalk.iteOmega]; go_simp; refine hK _ ?_; clear hK K))
  quiet_step (exact Calls.grows (sealOf _ _ hl'.out))
  repeat (first | quiet_step (fail) | (refine wpQuiet_step (fun K hK => ?_); go_simp; simp only [↓IntWalk.iteOmega]; go_simp; refine hK _ ?_; clear hK K))
  refine wpQuiet_nil ?_
  rintro _ ⟨x, rfl⟩
  go_wp2_with fail
  exact bodyPost_ret (v := .tuple #[.agg #[.int .i64 0, .int .i64 0, .int .i64 0, .int .i64 0, .int .i64 0, .int .i64 0, .int .i64 0, .string ⟨#[]⟩, .string ⟨#[]⟩, .string ⟨#[]⟩, .int .i64 0, .int .i64 0, .int .i64 0, .string ⟨#[]⟩], .int .i64 10]) (by simp [results, Try.results16, go_sem]) rfl ⟨Rec.zero, 10, hD.out.symm, rfl, (by repeat (first | exact Below.refl _ _ | assumption | refine Gr.ext ?_ _ | refine Gr.alloc ?_ _ | refine Gr.drew ?_ | (refine Gr.set ?_ (by first | (simp; done) | (simp; omega)) _)))⟩
end Go.Proofs.Ytcbbnmodjnnbeaa
