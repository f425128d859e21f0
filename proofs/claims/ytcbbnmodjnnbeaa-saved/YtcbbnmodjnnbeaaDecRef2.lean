/- The document's own Decode: another kind. -/
import Derived.Test.YtcbbnmodjnnbeaaDecRef
set_option linter.unusedSimpArgs false
set_option linter.unusedVariables false
namespace Go.Proofs.Ytcbbnmodjnnbeaa
open Go.RowKit

set_option maxRecDepth 100000 in
set_option maxHeartbeats 1000000 in
theorem refDecode2 (s : ByteArray) (w : World) (hs : s.size ≤ maxLen) (hk : rd s.data.toList 0 1 = 2) :
    Calls Try.prog 17 #[.string s] w fun e w' => ∃ q er, (q, er) = decR s.data.toList ∧ e = .returned (.tuple #[(.agg #[.int .i64 q.kind, .int .i64 q.gen, .int .i64 q.index, .int .i64 q.term, .int .i64 q.vote, .int .i64 q.many, .int .i64 q.cmd.kind, .string q.cmd.key, .string q.cmd.val, .string q.cmd.old, .int .i64 q.cmd.rev, .int .i64 q.cmd.ses, .int .i64 q.cmd.seq, .string q.data]), .int .i64 er]) ∧ Below w.heap.size w w' := by
  have hs' : Hid (s.size ≤ maxLen) := hs
  clear hs
  go_enter Try.func17, Try.ntmps17
  go_wp2_with fail
  refine (rdAt s _ _ 1 _ hs'.out (by omega) (by omega) rfl (by omega)).mono ?_
  rintro e w1 ⟨kind, bk, rfl, Hkind, rfl⟩
  have hk1 : kind = 2 := by rw [← Hkind.out]; exact hk
  subst hk1
  go_wp2_with fail
  refine (rdAt s _ _ 3 _ hs'.out (by omega) (by omega) rfl (by omega)).mono ?_
  rintro e w1 ⟨term, bt, rfl, Hterm, rfl⟩
  go_wp2_with fail
  refine (rdAt s _ _ 1 _ hs'.out (by omega) (by omega) rfl (by omega)).mono ?_
  rintro e w1 ⟨v, bv, rfl, Hv, rfl⟩
  have HR : Hid (refRd s.data.toList = ⟨2, 0, 0, term, (v : Int) - 1, 0, ⟨0, ⟨#[]⟩, ⟨#[]⟩, ⟨#[]⟩, 0, 0, 0⟩, ⟨#[]⟩⟩) := by
    show _ = _
    go_light
    have e1 : rd s.data.toList 1 3 = term := Hterm.out
    have e2 : rd s.data.toList 4 1 = v := Hv.out
    unfold refRd
    rw [if_neg (by omega), if_pos hk, e1, e2]
    rfl
  go_wp2_with fail
  refine (refEncodeAny' _ _ _ _ _ _ _ _ _ _ _ _ _ _ _).mono ?_
  rintro e w1 ⟨t, er, rfl, HT, hb1⟩
  obtain ⟨x1, rfl⟩ := Below.ext hb1
  clear hb1
  go_wp2_with fail
  · rename_i h0 h1
    exact bodyPost_ret (v := .tuple #[.agg #[.int .i64 0, .int .i64 0, .int .i64 0, .int .i64 0, .int .i64 0, .int .i64 0, .int .i64 0, .string ⟨#[]⟩, .string ⟨#[]⟩, .string ⟨#[]⟩, .int .i64 0, .int .i64 0, .int .i64 0, .string ⟨#[]⟩], .int .i64 10]) (by simp [results, Try.results17, go_sem]) rfl ⟨Rec.zero, 10, decA HR.out HT h0 h1, rfl, (by repeat (first | exact Below.refl _ _ | assumption | refine Gr.ext ?_ _ | refine Gr.alloc ?_ _ | refine Gr.drew ?_ | (refine Gr.set ?_ (by first | (simp; done) | (simp; omega)) _)))⟩
  · rename_i h0 h1
    exact bodyPost_ret (v := .tuple #[.agg #[.int .i64 2, .int .i64 0, .int .i64 0, .int .i64 term, .int .i64 ((v : Int) - 1), .int .i64 0, .int .i64 0, .string ⟨#[]⟩, .string ⟨#[]⟩, .string ⟨#[]⟩, .int .i64 0, .int .i64 0, .int .i64 0, .string ⟨#[]⟩], .int .i64 0]) (by simp [results, Try.results17, go_sem]) rfl ⟨_, 0, decB HR.out HT h0 h1, rfl, (by repeat (first | exact Below.refl _ _ | assumption | refine Gr.ext ?_ _ | refine Gr.alloc ?_ _ | refine Gr.drew ?_ | (refine Gr.set ?_ (by first | (simp; done) | (simp; omega)) _)))⟩
  · rename_i h0
    exact bodyPost_ret (v := .tuple #[.agg #[.int .i64 0, .int .i64 0, .int .i64 0, .int .i64 0, .int .i64 0, .int .i64 0, .int .i64 0, .string ⟨#[]⟩, .string ⟨#[]⟩, .string ⟨#[]⟩, .int .i64 0, .int .i64 0, .int .i64 0, .string ⟨#[]⟩], .int .i64 10]) (by simp [results, Try.results17, go_sem]) rfl ⟨Rec.zero, 10, decC HR.out HT h0, rfl, (by repeat (first | exact Below.refl _ _ | assumption | refine Gr.ext ?_ _ | refine Gr.alloc ?_ _ | refine Gr.drew ?_ | (refine Gr.set ?_ (by first | (simp; done) | (simp; omega)) _)))⟩

set_option maxRecDepth 100000 in
set_option maxHeartbeats 1000000 in
theorem refDecode0 (s : ByteArray) (w : World) (hs : s.size ≤ maxLen) (hk : rd s.data.toList 0 1 ≠ 1 ∧ rd s.data.toList 0 1 ≠ 2 ∧ rd s.data.toList 0 1 ≠ 3) :
    Calls Try.prog 17 #[.string s] w fun e w' => ∃ q er, (q, er) = decR s.data.toList ∧ e = .returned (.tuple #[(.agg #[.int .i64 q.kind, .int .i64 q.gen, .int .i64 q.index, .int .i64 q.term, .int .i64 q.vote, .int .i64 q.many, .int .i64 q.cmd.kind, .string q.cmd.key, .string q.cmd.val, .string q.cmd.old, .int .i64 q.cmd.rev, .int .i64 q.cmd.ses, .int .i64 q.cmd.seq, .string q.data]), .int .i64 er]) ∧ Below w.heap.size w w' := by
  have hs' : Hid (s.size ≤ maxLen) := hs
  clear hs
  go_enter Try.func17, Try.ntmps17
  go_wp2_with fail
  refine (rdAt s _ _ 1 _ hs'.out (by omega) (by omega) rfl (by omega)).mono ?_
  rintro e w1 ⟨kind, bk, rfl, Hkind, rfl⟩
  have hk1 : kind ≠ 1 := by rw [← Hkind.out]; exact hk.1
  have hk2 : kind ≠ 2 := by rw [← Hkind.out]; exact hk.2.1
  have hk3 : kind ≠ 3 := by rw [← Hkind.out]; exact hk.2.2
  have g1 : ((kind : Int) == 1) = false := by rw [beq_eq_false_iff_ne]; omega
  have g2 : ((kind : Int) == 2) = false := by rw [beq_eq_false_iff_ne]; omega
  have g3 : ((kind : Int) == 3) = false := by rw [beq_eq_false_iff_ne]; omega
  have HK : Hid (rd s.data.toList 0 1 ≠ 1 ∧ rd s.data.toList 0 1 ≠ 2 ∧ rd s.data.toList 0 1 ≠ 3) := hk
  clear hk hk1 hk2 hk3
  have HR : Hid (refRd s.data.toList = ⟨kind, 0, 0, 0, 0, 0, ⟨0, ⟨#[]⟩, ⟨#[]⟩, ⟨#[]⟩, 0, 0, 0⟩, ⟨#[]⟩⟩) := by
    show _ = _
    go_light
    have e1 : rd s.data.toList 0 1 = kind := Hkind.out
    unfold refRd
    rw [if_neg HK.out.1, if_neg HK.out.2.1, if_neg HK.out.2.2, e1]
    rfl
  go_wp2_with fail
  refine (refEncodeAny' _ _ _ _ _ _ _ _ _ _ _ _ _ _ _).mono ?_
  rintro e w1 ⟨t, er, rfl, HT, hb1⟩
  obtain ⟨x1, rfl⟩ := Below.ext hb1
  clear hb1
  go_wp2_with fail
  · rename_i h0 h1
    exact bodyPost_ret (v := .tuple #[.agg #[.int .i64 0, .int .i64 0, .int .i64 0, .int .i64 0, .int .i64 0, .int .i64 0, .int .i64 0, .string ⟨#[]⟩, .string ⟨#[]⟩, .string ⟨#[]⟩, .int .i64 0, .int .i64 0, .int .i64 0, .string ⟨#[]⟩], .int .i64 10]) (by simp [results, Try.results17, go_sem]) rfl ⟨Rec.zero, 10, decA HR.out HT h0 h1, rfl, (by repeat (first | exact Below.refl _ _ | assumption | refine Gr.ext ?_ _ | refine Gr.alloc ?_ _ | refine Gr.drew ?_ | (refine Gr.set ?_ (by first | (simp; done) | (simp; omega)) _)))⟩
  · rename_i h0 h1
    exact bodyPost_ret (v := .tuple #[.agg #[.int .i64 kind, .int .i64 0, .int .i64 0, .int .i64 0, .int .i64 0, .int .i64 0, .int .i64 0, .string ⟨#[]⟩, .string ⟨#[]⟩, .string ⟨#[]⟩, .int .i64 0, .int .i64 0, .int .i64 0, .string ⟨#[]⟩], .int .i64 0]) (by simp [results, Try.results17, go_sem]) rfl ⟨_, 0, decB HR.out HT h0 h1, rfl, (by repeat (first | exact Below.refl _ _ | assumption | refine Gr.ext ?_ _ | refine Gr.alloc ?_ _ | refine Gr.drew ?_ | (refine Gr.set ?_ (by first | (simp; done) | (simp; omega)) _)))⟩
  · rename_i h0
    exact bodyPost_ret (v := .tuple #[.agg #[.int .i64 0, .int .i64 0, .int .i64 0, .int .i64 0, .int .i64 0, .int .i64 0, .int .i64 0, .string ⟨#[]⟩, .string ⟨#[]⟩, .string ⟨#[]⟩, .int .i64 0, .int .i64 0, .int .i64 0, .string ⟨#[]⟩], .int .i64 10]) (by simp [results, Try.results17, go_sem]) rfl ⟨Rec.zero, 10, decC HR.out HT h0, rfl, (by repeat (first | exact Below.refl _ _ | assumption | refine Gr.ext ?_ _ | refine Gr.alloc ?_ _ | refine Gr.drew ?_ | (refine Gr.set ?_ (by first | (simp; done) | (simp; omega)) _)))⟩
end Go.Proofs.Ytcbbnmodjnnbeaa
