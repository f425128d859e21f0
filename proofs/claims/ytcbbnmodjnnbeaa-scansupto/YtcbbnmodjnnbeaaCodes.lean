/- The walk of the statement on every Sum, Encode and Decode. -/
import Derived.Test.YtcbbnmodjnnbeaaPure2
import Derived.Test.YtcbbnmodjnnbeaaDecProg2
set_option linter.unusedSimpArgs false
set_option linter.unusedVariables false
namespace Go.Proofs.Ytcbbnmodjnnbeaa
open Go.RowKit

theorem eql_rec' (a b : Rec) (w : World) : (binOp .eql 25 (.agg #[.int .i64 a.kind, .int .i64 a.gen, .int .i64 a.index, .int .i64 a.term, .int .i64 a.vote, .int .i64 a.many, .int .i64 a.cmd.kind, .string a.cmd.key, .string a.cmd.val, .string a.cmd.old, .int .i64 a.cmd.rev, .int .i64 a.cmd.ses, .int .i64 a.cmd.seq, .string a.data]) (.agg #[.int .i64 b.kind, .int .i64 b.gen, .int .i64 b.index, .int .i64 b.term, .int .i64 b.vote, .int .i64 b.many, .int .i64 b.cmd.kind, .string b.cmd.key, .string b.cmd.val, .string b.cmd.old, .int .i64 b.cmd.rev, .int .i64 b.cmd.ses, .int .i64 b.cmd.seq, .string b.data])).run Try.prog w = .ok (.bool (Rec.same a b)) w := eql_rec a b w
theorem progDecode (s : ByteArray) (w : World) (hs : s.size ≤ 281474976710656) :
    Calls Try.prog 16 #[.string s] w fun e w' => ∃ q er, Hid ((q, er) = decR s.data.toList) ∧ e = .returned (.tuple #[(.agg #[.int .i64 q.kind, .int .i64 q.gen, .int .i64 q.index, .int .i64 q.term, .int .i64 q.vote, .int .i64 q.many, .int .i64 q.cmd.kind, .string q.cmd.key, .string q.cmd.val, .string q.cmd.old, .int .i64 q.cmd.rev, .int .i64 q.cmd.ses, .int .i64 q.cmd.seq, .string q.data]), .int .i64 er]) ∧ Below w.heap.size w w' := by
  have key : Calls Try.prog 16 #[.string s] w fun e w' => ∃ q er, (q, er) = decP s.data.toList ∧ e = .returned (.tuple #[(.agg #[.int .i64 q.kind, .int .i64 q.gen, .int .i64 q.index, .int .i64 q.term, .int .i64 q.vote, .int .i64 q.many, .int .i64 q.cmd.kind, .string q.cmd.key, .string q.cmd.val, .string q.cmd.old, .int .i64 q.cmd.rev, .int .i64 q.cmd.ses, .int .i64 q.cmd.seq, .string q.data]), .int .i64 er]) ∧ Below w.heap.size w w' := by
    by_cases h : s.size < 4
    · exact decode_short s w h
    · by_cases hx : s.data.toList.drop (s.size - 4) = be 4 (By.sum (s.data.toList.take (s.size - 4)))
      · exact decode_sealed s w (s.size - 4) (by omega) (by omega) hx
      · exact decode_unsealed s w (s.size - 4) (by omega) (by omega) hx
  exact key.mono fun e w' ⟨q, er, h, he, hb⟩ => ⟨q, er, by show _ = _; rw [h, dec_same], he, hb⟩
theorem docDecode (s : ByteArray) (w : World) (hs : s.size ≤ 281474976710656) :
    Calls Try.prog 17 #[.string s] w fun e w' => ∃ q er, Hid ((q, er) = decR s.data.toList) ∧ e = .returned (.tuple #[(.agg #[.int .i64 q.kind, .int .i64 q.gen, .int .i64 q.index, .int .i64 q.term, .int .i64 q.vote, .int .i64 q.many, .int .i64 q.cmd.kind, .string q.cmd.key, .string q.cmd.val, .string q.cmd.old, .int .i64 q.cmd.rev, .int .i64 q.cmd.ses, .int .i64 q.cmd.seq, .string q.data]), .int .i64 er]) ∧ Below w.heap.size w w' := by
  have hs' : s.size ≤ maxLen := by unfold maxLen; omega
  have key : Calls Try.prog 17 #[.string s] w fun e w' => ∃ q er, (q, er) = decR s.data.toList ∧ e = .returned (.tuple #[(.agg #[.int .i64 q.kind, .int .i64 q.gen, .int .i64 q.index, .int .i64 q.term, .int .i64 q.vote, .int .i64 q.many, .int .i64 q.cmd.kind, .string q.cmd.key, .string q.cmd.val, .string q.cmd.old, .int .i64 q.cmd.rev, .int .i64 q.cmd.ses, .int .i64 q.cmd.seq, .string q.data]), .int .i64 er]) ∧ Below w.heap.size w w' := by
    by_cases h1 : rd s.data.toList 0 1 = 1
    · exact refDecode1 s w hs' h1
    · by_cases h2 : rd s.data.toList 0 1 = 2
      · exact refDecode2 s w hs' h2
      · by_cases h3 : rd s.data.toList 0 1 = 3
        · exact refDecode3 s w hs' h3
        · exact refDecode0 s w hs' ⟨h1, h2, h3⟩
  exact key

set_option maxRecDepth 100000 in
set_option maxHeartbeats 2000000 in
theorem codes_yes (r : Rec) (s : ByteArray) (w : World) (hs : s.size ≤ 281474976710656) (hm : r.may = true) :
    Calls Try.prog 3 #[(.agg #[.int .i64 r.kind, .int .i64 r.gen, .int .i64 r.index, .int .i64 r.term, .int .i64 r.vote, .int .i64 r.many, .int .i64 r.cmd.kind, .string r.cmd.key, .string r.cmd.val, .string r.cmd.old, .int .i64 r.cmd.rev, .int .i64 r.cmd.ses, .int .i64 r.cmd.seq, .string r.data]), .string s] w fun e w' => e = .returned (.bool true) ∧ Below w.heap.size w w' := by
  have heq := eql_rec'
  have hrr : Rec.same r r = true := (Rec.same_iff r r).2 rfl
  have hs' : Hid (s.size ≤ 281474976710656) := hs
  have hsm : Hid (s.size ≤ maxLen) := by show _ ≤ _; unfold maxLen; omega
  have hel : Hid ((B (encL r)).size ≤ 281474976710656) := by
    show _ ≤ _
    have := bodyL_len r hm
    rw [B_size]; unfold encL; rw [List.length_append, be_length]; omega
  have HM : Hid (r.may = true) := hm
  clear hs hm
  go_enter Try.func3, Try.ntmps3
  go_wp2_with fail
  refine (codecSum s _ hsm.out).mono ?_
  rintro e w1 ⟨rfl, rfl⟩
  go_wp2_with fail
  refine (refSum s _ hsm.out).mono ?_
  rintro e w1 ⟨rfl, rfl⟩
  go_wp2_with fail
  refine (codecEncode r _ HM.out).mono ?_
  rintro e w1 ⟨rfl, hb1⟩
  obtain ⟨x1, rfl⟩ := Below.ext hb1
  clear hb1
  go_wp2_with fail
  refine (refEncode r _ HM.out).mono ?_
  rintro e w1 ⟨rfl, hb1⟩
  obtain ⟨x2, rfl⟩ := Below.ext hb1
  clear hb1
  go_wp2_with fail
  refine (progDecode _ _ hel.out).mono ?_
  rintro e w1 ⟨q, g, Hq, rfl, hb1⟩
  obtain ⟨x3, rfl⟩ := Below.ext hb1
  clear hb1
  have hq : (q, g) = (r, 0) := by rw [Hq.out]; exact decR_enc r HM.out
  injection hq with hq1 hq2
  subst hq1 hq2
  clear Hq
  go_wp2_with fail
  refine (progDecode _ _ hs'.out).mono ?_
  rintro e w1 ⟨q, g, Hq, rfl, hb1⟩
  obtain ⟨x4, rfl⟩ := Below.ext hb1
  clear hb1
  go_wp2_with fail
  refine (docDecode _ _ hs'.out).mono ?_
  rintro e w1 ⟨p, h, Hp, rfl, hb1⟩
  obtain ⟨x5, rfl⟩ := Below.ext hb1
  clear hb1
  have hq : (p, h) = (q, g) := by rw [Hp.out, Hq.out]
  injection hq with hq1 hq2
  subst hq1 hq2
  clear Hp Hq
  have hpp : Rec.same p p = true := (Rec.same_iff p p).2 rfl
  go_wp2_with fail
  go_ret
  exact ⟨rfl, (by repeat (first | exact Below.refl _ _ | assumption | refine Gr.ext ?_ _ | refine Gr.alloc ?_ _ | refine Gr.drew ?_ | (refine Gr.set ?_ (by first | (simp; done) | (simp; omega)) _)))⟩

set_option maxRecDepth 100000 in
set_option maxHeartbeats 2000000 in
theorem codes_no (r : Rec) (s : ByteArray) (w : World) (hs : s.size ≤ 281474976710656) (hm : r.may = false) :
    Calls Try.prog 3 #[(.agg #[.int .i64 r.kind, .int .i64 r.gen, .int .i64 r.index, .int .i64 r.term, .int .i64 r.vote, .int .i64 r.many, .int .i64 r.cmd.kind, .string r.cmd.key, .string r.cmd.val, .string r.cmd.old, .int .i64 r.cmd.rev, .int .i64 r.cmd.ses, .int .i64 r.cmd.seq, .string r.data]), .string s] w fun e w' => e = .returned (.bool true) ∧ Below w.heap.size w w' := by
  have heq := eql_rec'
  have hs' : Hid (s.size ≤ 281474976710656) := hs
  have hsm : Hid (s.size ≤ maxLen) := by show _ ≤ _; unfold maxLen; omega
  have HM : Hid (r.may = false) := hm
  clear hs hm
  go_enter Try.func3, Try.ntmps3
  go_wp2_with fail
  refine (codecSum s _ hsm.out).mono ?_
  rintro e w1 ⟨rfl, rfl⟩
  go_wp2_with fail
  refine (refSum s _ hsm.out).mono ?_
  rintro e w1 ⟨rfl, rfl⟩
  go_wp2_with fail
  refine (codecEncode_no r _ HM.out).mono ?_
  rintro e w1 ⟨rfl, hb1⟩
  obtain ⟨x1, rfl⟩ := Below.ext hb1
  clear hb1
  go_wp2_with fail
  refine (refEncode_no r _ HM.out).mono ?_
  rintro e w1 ⟨rfl, hb1⟩
  obtain ⟨x2, rfl⟩ := Below.ext hb1
  clear hb1
  go_wp2_with fail
  refine (progDecode _ _ hs'.out).mono ?_
  rintro e w1 ⟨q, g, Hq, rfl, hb1⟩
  obtain ⟨x4, rfl⟩ := Below.ext hb1
  clear hb1
  go_wp2_with fail
  refine (docDecode _ _ hs'.out).mono ?_
  rintro e w1 ⟨p, h, Hp, rfl, hb1⟩
  obtain ⟨x5, rfl⟩ := Below.ext hb1
  clear hb1
  have hq : (p, h) = (q, g) := by rw [Hp.out, Hq.out]
  injection hq with hq1 hq2
  subst hq1 hq2
  clear Hp Hq
  have hpp : Rec.same p p = true := (Rec.same_iff p p).2 rfl
  go_wp2_with fail
  go_ret
  exact ⟨rfl, (by repeat (first | exact Below.refl _ _ | assumption | refine Gr.ext ?_ _ | refine Gr.alloc ?_ _ | refine Gr.drew ?_ | (refine Gr.set ?_ (by first | (simp; done) | (simp; omega)) _)))⟩
theorem codes_any (r : Rec) (s : ByteArray) (w : World) (hs : s.size ≤ 281474976710656) :
    Calls Try.prog 3 #[(.agg #[.int .i64 r.kind, .int .i64 r.gen, .int .i64 r.index, .int .i64 r.term, .int .i64 r.vote, .int .i64 r.many, .int .i64 r.cmd.kind, .string r.cmd.key, .string r.cmd.val, .string r.cmd.old, .int .i64 r.cmd.rev, .int .i64 r.cmd.ses, .int .i64 r.cmd.seq, .string r.data]), .string s] w fun e w' => e = .returned (.bool true) ∧ Below w.heap.size w w' := by
  cases hm : r.may
  · exact codes_no r s w hs hm
  · exact codes_yes r s w hs hm
end Go.Proofs.Ytcbbnmodjnnbeaa
