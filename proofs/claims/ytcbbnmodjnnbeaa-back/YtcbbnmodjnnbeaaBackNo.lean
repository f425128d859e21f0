/- The walk of the statement on what is encoded and decoded back: a record that may not be. -/
import Derived.Test.YtcbbnmodjnnbeaaBackW
set_option linter.unusedSimpArgs false
set_option linter.unusedVariables false
namespace Go.Proofs.Ytcbbnmodjnnbeaa
open Go.RowKit
attribute [local go_sem] World.ext_ext

theorem decR_ok {L : List UInt8} {q : Rec} (h : (q, (0 : Int)) = decR L) : q.may = true ∧ encL q = L := by
  unfold decR at h
  by_cases hc : (refRd L).may = true ∧ encL (refRd L) = L
  · rw [if_pos hc] at h
    injection h with h1 _
    rw [h1]; exact hc
  · rw [if_neg hc] at h
    injection h with _ h2
    cases h2
set_option maxRecDepth 100000 in
set_option maxHeartbeats 2000000 in
theorem back_no (r : Rec) (s : ByteArray) (at_ by_ : Int) (w : World) (hs : s.size ≤ 281474976710656) (hm : r.may = false) :
    Calls Try.prog 5 #[(.agg #[.int .i64 r.kind, .int .i64 r.gen, .int .i64 r.index, .int .i64 r.term, .int .i64 r.vote, .int .i64 r.many, .int .i64 r.cmd.kind, .string r.cmd.key, .string r.cmd.val, .string r.cmd.old, .int .i64 r.cmd.rev, .int .i64 r.cmd.ses, .int .i64 r.cmd.seq, .string r.data]), .string s, .int .i64 at_, .int .i64 by_] w fun e w' => e = .returned (.bool true) ∧ Below w.heap.size w w' := by
  have hs' : Hid (s.size ≤ 281474976710656) := hs
  have HM : Hid (r.may = false) := hm
  clear hs hm
  go_enter Try.func5, Try.ntmps5
  go_wp2_with fail
  refine (lawWorks _).mono ?_
  rintro e w1 ⟨rfl, hb1⟩
  obtain ⟨x1, rfl⟩ := Below.ext hb1
  clear hb1
  go_wp2_with fail
  refine (codecEncode_no r _ HM.out).mono ?_
  rintro e w1 ⟨rfl, hb1⟩
  obtain ⟨x2, rfl⟩ := Below.ext hb1
  clear hb1
  go_wp2_with fail
  refine (progDecode _ _ hs'.out).mono ?_
  rintro e w1 ⟨q, g, Hq, rfl, hb1⟩
  obtain ⟨x4, rfl⟩ := Below.ext hb1
  clear hb1
  by_cases hg : g = 0
  · subst hg
    have hq := decR_ok Hq.out
    have HQ : Hid (encL q = s.data.toList) := hq.2
    have hqm : Hid (q.may = true) := hq.1
    clear hq
    go_wp2_with fail
    refine (codecEncode q _ hqm.out).mono ?_
    rw [HQ.out, B_eta]
    rintro e w1 ⟨rfl, hb1⟩
    obtain ⟨x5, rfl⟩ := Below.ext hb1
    clear hb1
    go_wp2_with fail
    go_ret
    exact ⟨rfl, (by repeat (first | exact Below.refl _ _ | assumption | refine Gr.ext ?_ _ | refine Gr.alloc ?_ _ | refine Gr.drew ?_ | (refine Gr.set ?_ (by first | (simp; done) | (simp; omega)) _)))⟩
  · go_wp2_with fail
    go_ret
    exact ⟨rfl, (by repeat (first | exact Below.refl _ _ | assumption | refine Gr.ext ?_ _ | refine Gr.alloc ?_ _ | refine Gr.drew ?_ | (refine Gr.set ?_ (by first | (simp; done) | (simp; omega)) _)))⟩
end Go.Proofs.Ytcbbnmodjnnbeaa
