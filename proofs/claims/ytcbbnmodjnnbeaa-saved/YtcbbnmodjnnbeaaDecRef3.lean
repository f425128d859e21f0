/- The document's own Decode: another kind. -/
import Derived.Test.YtcbbnmodjnnbeaaDecRef
set_option linter.unusedSimpArgs false
set_option linter.unusedVariables false
namespace Go.Proofs.Ytcbbnmodjnnbeaa
open Go.RowKit

set_option maxRecDepth 100000 in
set_option maxHeartbeats 1000000 in
theorem refDecode3 (s : ByteArray) (w : World) (hs : s.size ≤ maxLen) (hk : rd s.data.toList 0 1 = 3) :
    Calls Try.prog 17 #[.string s] w fun e w' => ∃ q er, (q, er) = decR s.data.toList ∧ e = .returned (.tuple #[(.agg #[.int .i64 q.kind, .int .i64 q.gen, .int .i64 q.index, .int .i64 q.term, .int .i64 q.vote, .int .i64 q.many, .int .i64 q.cmd.kind, .string q.cmd.key, .string q.cmd.val, .string q.cmd.old, .int .i64 q.cmd.rev, .int .i64 q.cmd.ses, .int .i64 q.cmd.seq, .string q.data]), .int .i64 er]) ∧ Below w.heap.size w w' := by
  have hs' : Hid (s.size ≤ maxLen) := hs
  clear hs
  go_enter Try.func17, Try.ntmps17
  go_wp2_with fail
  refine (rdAt s _ _ 1 _ hs'.out (by omega) (by omega) rfl (by omega)).mono ?_
  rintro e w1 ⟨kind, bk, rfl, Hkind, rfl⟩
  have hk1 : kind = 3 := by rw [← Hkind.out]; exact hk
  subst hk1
  go_wp2_with fail
  refine (rdAt s _ _ 3 _ hs'.out (by omega) (by omega) rfl (by omega)).mono ?_
  rintro e w1 ⟨index, bi, rfl, Hindex, rfl⟩
  go_wp2_with fail
  refine (rdAt s _ _ 3 _ hs'.out (by omega) (by omega) rfl (by omega)).mono ?_
  rintro e w1 ⟨term, bt, rfl, Hterm, rfl⟩
  go_wp2_with fail
  refine (refCommandAt s _ hs'.out).mono ?_
  rintro e w1 ⟨c, Hc0, rfl, hb1⟩
  have Hc : Hid (c = cmdRd s.data.toList 7) := Hc0
  clear Hc0
  obtain ⟨x2, rfl⟩ := Below.ext hb1
  clear hb1
  have HR : Hid (refRd s.data.toList = ⟨3, 0, index, term, 0, 0, c, ⟨#[]⟩⟩) := by
    show _ = _
    go_light
    have e1 : rd s.data.toList 1 3 = index := Hindex.out
    have e2 : rd s.data.toList 4 3 = term := Hterm.out
    unfold refRd
    rw [if_neg (by omega), if_neg (by omega), if_pos hk, e1, e2, ← Hc.out]
    rfl
  go_wp2_with fail
  refine (refEncodeAny' _ _ _ _ _ _ _ _ _ _ _ _ _ _ _).mono ?_
  rintro e w1 ⟨t, er, rfl, HT, hb1⟩
  obtain ⟨x1, rfl⟩ := Below.ext hb1
  clear hb1
  go_wp2_with fail
  · rename_i h0 h1
    exact bodyPost_ret (v := .tuple #[.agg #[.int .i64 0, .int .i64 0, .int .i64 0, .int .i64 0, .int .i64 0, .int .i64 0, .int .i64 0, .string ⟨#[]⟩, .string ⟨#[]⟩, .string ⟨#[]⟩, .int .i64 0, .int .i64 0, .int .i64 0, .string ⟨#[]⟩], .int .i64 10]) (by simp [results, Try.results17, go_sem]) rfl ⟨Rec.zero, 10, decA HR.out HT h0 h1, rfl, (by repeat (first | exact Below.refl _ _ | assumption | refine Gr.ext ?_ _ | refine Gr.alloc ?_ _ | refine Gr.drew ?_ | (refine Gr.set ?_ (by first | (simp; done) | (simp; omega)) _)))⟩
  · rename_i h0 h1
    exact bodyPost_ret (v := .tuple #[.agg #[.int .i64 3, .int .i64 0, .int .i64 index, .int .i64 term, .int .i64 0, .int .i64 0, .int .i64 c.kind, .string c.key, .string c.val, .string c.old, .int .i64 c.rev, .int .i64 c.ses, .int .i64 c.seq, .string ⟨#[]⟩], .int .i64 0]) (by simp [results, Try.results17, go_sem]) rfl ⟨_, 0, decB HR.out HT h0 h1, rfl, (by repeat (first | exact Below.refl _ _ | assumption | refine Gr.ext ?_ _ | refine Gr.alloc ?_ _ | refine Gr.drew ?_ | (refine Gr.set ?_ (by first | (simp; done) | (simp; omega)) _)))⟩
  · rename_i h0
    exact bodyPost_ret (v := .tuple #[.agg #[.int .i64 0, .int .i64 0, .int .i64 0, .int .i64 0, .int .i64 0, .int .i64 0, .int .i64 0, .string ⟨#[]⟩, .string ⟨#[]⟩, .string ⟨#[]⟩, .int .i64 0, .int .i64 0, .int .i64 0, .string ⟨#[]⟩], .int .i64 10]) (by simp [results, Try.results17, go_sem]) rfl ⟨Rec.zero, 10, decC HR.out HT h0, rfl, (by repeat (first | exact Below.refl _ _ | assumption | refine Gr.ext ?_ _ | refine Gr.alloc ?_ _ | refine Gr.drew ?_ | (refine Gr.set ?_ (by first | (simp; done) | (simp; omega)) _)))⟩
end Go.Proofs.Ytcbbnmodjnnbeaa
