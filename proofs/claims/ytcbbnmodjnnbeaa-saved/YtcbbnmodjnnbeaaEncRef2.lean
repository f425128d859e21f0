/- The document's own Encode, whole. -/
import Derived.Test.YtcbbnmodjnnbeaaEncRef
set_option linter.unusedSimpArgs false
set_option linter.unusedVariables false
namespace Go.Proofs.Ytcbbnmodjnnbeaa
open Go.RowKit

theorem ret2_str {a b : ByteArray} {m n : Int} (h : a = b) (hn : m = n) : Ending.returned (.tuple #[.string a, .int .i64 m]) = .returned (.tuple #[.string b, .int .i64 n]) := by rw [h, hn]
theorem cmdL_length (c : Cmd) : (cmdL c).length = 11 + c.key.size + c.val.size + c.old.size := by
  simp only [cmdL, List.length_append, be_length, len_data]; omega
theorem encL_length1 (r : Rec) (hk : r.kind = 1) : (encL r).length = 20 + r.data.size := by
  simp only [encL, bodyL, hk, if_pos, List.length_append, be_length, len_data]; omega

set_option maxHeartbeats 1000000 in
theorem refEncode1 (r : Rec) (w : World) (hm : r.may = true) (hk : r.kind = 1) :
    Calls Try.prog 15 #[(.agg #[.int .i64 r.kind, .int .i64 r.gen, .int .i64 r.index, .int .i64 r.term, .int .i64 r.vote, .int .i64 r.many, .int .i64 r.cmd.kind, .string r.cmd.key, .string r.cmd.val, .string r.cmd.old, .int .i64 r.cmd.rev, .int .i64 r.cmd.ses, .int .i64 r.cmd.seq, .string r.data])] w fun e w' => e = .returned (.tuple #[.string (B (encL r)), .int .i64 0]) ∧ Below w.heap.size w w' := by
  have HE : Hid (bodyL r = be 1 r.kind.toNat ++ (be 3 r.gen.toNat ++ be 3 r.index.toNat ++ be 3 r.term.toNat ++ be 3 r.many.toNat ++ be 3 r.data.size ++ r.data.data.toList)) := by show _ = _; simp [bodyL, hk]
  obtain ⟨a1, a2, a3, a4, a5, a6, a7, a8, a9, -, -⟩ := rec_bd1 r hm hk
  have hk1 : (r.kind == 1) = true := by rw [hk]; rfl
  have hk2 : (r.kind == 2) = false := by rw [hk]; rfl
  have hk3 : (r.kind == 3) = false := by rw [hk]; rfl
  have hk0 : 0 ≤ r.kind := by omega
  have hk9 : r.kind ≤ 9 := by omega
  clear hk
  go_enter Try.func15, Try.ntmps15
  go_wp2_with (first | (go_at_call 50; refine (refMayRec r _).mono ?_; rintro e w1 ⟨rfl, hb1⟩; obtain ⟨x1, rfl⟩ := Below.ext hb1; clear hb1) | (go_at_call 51; refine (num1 _ _ (by omega) (by omega)).mono ?_; rintro e w2 ⟨rfl, hb2⟩; obtain ⟨x2, rfl⟩ := Below.ext hb2; clear hb2))
  refine wp_region_grows (by kernel_rfl) (by kernel_rfl) ?_
  repeat (first | quiet_step (fail) | (refine wpQuiet_step (fun K hK => ?_); go_simp; simp only [↓IntWalk.iteOmega]; go_simp; refine hK _ ?_; clear hK K))
  quiet_step (exact Calls.grows (num3 _ _ (by omega) (by omega)))
  repeat (first | quiet_step (fail) | (refine wpQuiet_step (fun K hK => ?_); go_simp; simp only [↓IntWalk.iteOmega]; go_simp; refine hK _ ?_; clear hK K))
  quiet_step (exact Calls.grows (num3 _ _ (by omega) (by omega)))
  repeat (first | quiet_step (fail) | (refine wpQuiet_step (fun K hK => ?_); go_simp; simp only [↓IntWalk.iteOmega]; go_simp; refine hK _ ?_; clear hK K))
  quiet_step (exact Calls.grows (num3 _ _ (by omega) (by omega)))
  repeat (first | quiet_step (fail) | (refine wpQuiet_step (fun K hK => ?_); go_simp; simp only [↓IntWalk.iteOmega]; go_simp; refine hK _ ?_; clear hK K))
  quiet_step (exact Calls.grows (num3 _ _ (by omega) (by omega)))
  repeat (first | quiet_step (fail) | (refine wpQuiet_step (fun K hK => ?_); go_simp; simp only [↓IntWalk.iteOmega]; go_simp; refine hK _ ?_; clear hK K))
  quiet_step (exact Calls.grows (num3 _ _ (by omega) (by omega)))
  repeat (first | quiet_step (fail) | (refine wpQuiet_step (fun K hK => ?_); go_simp; simp only [↓IntWalk.iteOmega]; go_simp; refine hK _ ?_; clear hK K))
  refine wpQuiet_nil ?_
  rintro _ ⟨x, rfl⟩
  go_wp2_with (first | (go_at_call 13; refine (refSum _ _ (by simp only [B_size, List.length_append, be_length, len_data, cmdL_length]; unfold maxLen; omega)).mono ?_; rintro e w3 ⟨rfl, rfl⟩) | (go_at_call 51; refine (num4 _ _ (Nat.le_of_lt (Nat.lt_of_lt_of_le (By.sum_lt _) (by omega)))).mono ?_; rintro e w4 ⟨rfl, hb4⟩; obtain ⟨x4, rfl⟩ := Below.ext hb4; clear hb4))
  go_ret2
  exact ⟨ret2_str (by simp only [encL, HE.out, List.append_assoc]) rfl, (by repeat (first | exact Below.refl _ _ | assumption | refine Gr.ext ?_ _ | refine Gr.alloc ?_ _ | refine Gr.drew ?_ | (refine Gr.set ?_ (by first | (simp; done) | (simp; omega)) _)))⟩

set_option maxHeartbeats 1000000 in
theorem refEncode2 (r : Rec) (w : World) (hm : r.may = true) (hk : r.kind = 2) :
    Calls Try.prog 15 #[(.agg #[.int .i64 r.kind, .int .i64 r.gen, .int .i64 r.index, .int .i64 r.term, .int .i64 r.vote, .int .i64 r.many, .int .i64 r.cmd.kind, .string r.cmd.key, .string r.cmd.val, .string r.cmd.old, .int .i64 r.cmd.rev, .int .i64 r.cmd.ses, .int .i64 r.cmd.seq, .string r.data])] w fun e w' => e = .returned (.tuple #[.string (B (encL r)), .int .i64 0]) ∧ Below w.heap.size w w' := by
  have HE : Hid (bodyL r = be 1 r.kind.toNat ++ (be 3 r.term.toNat ++ be 1 (r.vote + 1).toNat)) := by show _ = _; simp [bodyL, hk]
  obtain ⟨a1, a2, a3, a4⟩ := rec_bd2 r hm hk
  have hw := wrap_id (r.vote + 1) (by omega) (by omega)
  have hk1 : (r.kind == 1) = false := by rw [hk]; rfl
  have hk2 : (r.kind == 2) = true := by rw [hk]; rfl
  have hk3 : (r.kind == 3) = false := by rw [hk]; rfl
  have hk0 : 0 ≤ r.kind := by omega
  have hk9 : r.kind ≤ 9 := by omega
  clear hk
  go_enter Try.func15, Try.ntmps15
  go_wp2_with (first | (go_at_call 50; refine (refMayRec r _).mono ?_; rintro e w1 ⟨rfl, hb1⟩; obtain ⟨x1, rfl⟩ := Below.ext hb1; clear hb1) | (go_at_call 51; refine (num1 _ _ (by omega) (by omega)).mono ?_; rintro e w2 ⟨rfl, hb2⟩; obtain ⟨x2, rfl⟩ := Below.ext hb2; clear hb2))
  refine wp_region_grows (by kernel_rfl) (by kernel_rfl) ?_
  repeat (first | quiet_step (fail) | (refine wpQuiet_step (fun K hK => ?_); go_simp; simp only [↓IntWalk.iteOmega]; go_simp; refine hK _ ?_; clear hK K))
  quiet_step (exact Calls.grows (num3 _ _ (by omega) (by omega)))
  repeat (first | quiet_step (fail) | (refine wpQuiet_step (fun K hK => ?_); go_simp; simp only [↓IntWalk.iteOmega]; go_simp; refine hK _ ?_; clear hK K))
  quiet_step (exact Calls.grows (num1 _ _ (by omega) (by omega)))
  repeat (first | quiet_step (fail) | (refine wpQuiet_step (fun K hK => ?_); go_simp; simp only [↓IntWalk.iteOmega]; go_simp; refine hK _ ?_; clear hK K))
  refine wpQuiet_nil ?_
  rintro _ ⟨x, rfl⟩
  go_wp2_with (first | (go_at_call 13; refine (refSum _ _ (by simp only [B_size, List.length_append, be_length, len_data, cmdL_length]; unfold maxLen; omega)).mono ?_; rintro e w3 ⟨rfl, rfl⟩) | (go_at_call 51; refine (num4 _ _ (Nat.le_of_lt (Nat.lt_of_lt_of_le (By.sum_lt _) (by omega)))).mono ?_; rintro e w4 ⟨rfl, hb4⟩; obtain ⟨x4, rfl⟩ := Below.ext hb4; clear hb4))
  go_ret2
  exact ⟨ret2_str (by simp only [encL, HE.out, List.append_assoc]) rfl, (by repeat (first | exact Below.refl _ _ | assumption | refine Gr.ext ?_ _ | refine Gr.alloc ?_ _ | refine Gr.drew ?_ | (refine Gr.set ?_ (by first | (simp; done) | (simp; omega)) _)))⟩

set_option maxHeartbeats 1000000 in
theorem refEncode3 (r : Rec) (w : World) (hm : r.may = true) (hk : r.kind = 3) :
    Calls Try.prog 15 #[(.agg #[.int .i64 r.kind, .int .i64 r.gen, .int .i64 r.index, .int .i64 r.term, .int .i64 r.vote, .int .i64 r.many, .int .i64 r.cmd.kind, .string r.cmd.key, .string r.cmd.val, .string r.cmd.old, .int .i64 r.cmd.rev, .int .i64 r.cmd.ses, .int .i64 r.cmd.seq, .string r.data])] w fun e w' => e = .returned (.tuple #[.string (B (encL r)), .int .i64 0]) ∧ Below w.heap.size w w' := by
  have HE : Hid (bodyL r = be 1 r.kind.toNat ++ (be 3 r.index.toNat ++ be 3 r.term.toNat ++ cmdL r.cmd)) := by show _ = _; simp [bodyL, hk]
  obtain ⟨a1, a2, a3, a4, a5⟩ := rec_bd3 r hm hk
  have hc := cmd_bd r.cmd a5
  have z1 := hc.key
  have z2 := hc.val
  have z3 := hc.old
  have hL := cmdL_length r.cmd
  clear a5
  have hk1 : (r.kind == 1) = false := by rw [hk]; rfl
  have hk2 : (r.kind == 2) = false := by rw [hk]; rfl
  have hk3 : (r.kind == 3) = true := by rw [hk]; rfl
  have hk0 : 0 ≤ r.kind := by omega
  have hk9 : r.kind ≤ 9 := by omega
  clear hk
  go_enter Try.func15, Try.ntmps15
  go_wp2_with (first | (go_at_call 50; refine (refMayRec r _).mono ?_; rintro e w1 ⟨rfl, hb1⟩; obtain ⟨x1, rfl⟩ := Below.ext hb1; clear hb1) | (go_at_call 51; refine (num1 _ _ (by omega) (by omega)).mono ?_; rintro e w2 ⟨rfl, hb2⟩; obtain ⟨x2, rfl⟩ := Below.ext hb2; clear hb2))
  refine wp_region_grows (by kernel_rfl) (by kernel_rfl) ?_
  repeat (first | quiet_step (fail) | (refine wpQuiet_step (fun K hK => ?_); go_simp; simp only [↓IntWalk.iteOmega]; go_simp; refine hK _ ?_; clear hK K))
  quiet_step (exact Calls.grows (num3 _ _ (by omega) (by omega)))
  repeat (first | quiet_step (fail) | (refine wpQuiet_step (fun K hK => ?_); go_simp; simp only [↓IntWalk.iteOmega]; go_simp; refine hK _ ?_; clear hK K))
  quiet_step (exact Calls.grows (num3 _ _ (by omega) (by omega)))
  repeat (first | quiet_step (fail) | (refine wpQuiet_step (fun K hK => ?_); go_simp; simp only [↓IntWalk.iteOmega]; go_simp; refine hK _ ?_; clear hK K))
  quiet_step (exact Calls.grows (refCommand r.cmd _ hc))
  repeat (first | quiet_step (fail) | (refine wpQuiet_step (fun K hK => ?_); go_simp; simp only [↓IntWalk.iteOmega]; go_simp; refine hK _ ?_; clear hK K))
  refine wpQuiet_nil ?_
  rintro _ ⟨x, rfl⟩
  go_wp2_with (first | (go_at_call 13; refine (refSum _ _ (by simp only [B_size, List.length_append, be_length, len_data, cmdL_length]; unfold maxLen; omega)).mono ?_; rintro e w3 ⟨rfl, rfl⟩) | (go_at_call 51; refine (num4 _ _ (Nat.le_of_lt (Nat.lt_of_lt_of_le (By.sum_lt _) (by omega)))).mono ?_; rintro e w4 ⟨rfl, hb4⟩; obtain ⟨x4, rfl⟩ := Below.ext hb4; clear hb4))
  go_ret2
  exact ⟨ret2_str (by simp only [encL, HE.out, List.append_assoc]) rfl, (by repeat (first | exact Below.refl _ _ | assumption | refine Gr.ext ?_ _ | refine Gr.alloc ?_ _ | refine Gr.drew ?_ | (refine Gr.set ?_ (by first | (simp; done) | (simp; omega)) _)))⟩

set_option maxHeartbeats 400000 in
theorem refEncode_no (r : Rec) (w : World) (hm : r.may = false) :
    Calls Try.prog 15 #[(.agg #[.int .i64 r.kind, .int .i64 r.gen, .int .i64 r.index, .int .i64 r.term, .int .i64 r.vote, .int .i64 r.many, .int .i64 r.cmd.kind, .string r.cmd.key, .string r.cmd.val, .string r.cmd.old, .int .i64 r.cmd.rev, .int .i64 r.cmd.ses, .int .i64 r.cmd.seq, .string r.data])] w fun e w' => e = .returned (.tuple #[.string (B []), .int .i64 2]) ∧ Below w.heap.size w w' := by
  go_enter Try.func15, Try.ntmps15
  go_wp2_with (go_at_call 50; refine (refMayRec r _).mono ?_; rintro e w1 ⟨rfl, hb1⟩; obtain ⟨x1, rfl⟩ := Below.ext hb1; clear hb1)
  go_ret2
  exact ⟨rfl, (by repeat (first | exact Below.refl _ _ | assumption | refine Gr.ext ?_ _ | refine Gr.alloc ?_ _ | refine Gr.drew ?_ | (refine Gr.set ?_ (by first | (simp; done) | (simp; omega)) _)))⟩
theorem refEncode (r : Rec) (w : World) (hm : r.may = true) :
    Calls Try.prog 15 #[(.agg #[.int .i64 r.kind, .int .i64 r.gen, .int .i64 r.index, .int .i64 r.term, .int .i64 r.vote, .int .i64 r.many, .int .i64 r.cmd.kind, .string r.cmd.key, .string r.cmd.val, .string r.cmd.old, .int .i64 r.cmd.rev, .int .i64 r.cmd.ses, .int .i64 r.cmd.seq, .string r.data])] w fun e w' => e = .returned (.tuple #[.string (B (encL r)), .int .i64 0]) ∧ Below w.heap.size w w' := by
  rcases rec_kind r hm with h | h | h
  · exact refEncode1 r w hm h
  · exact refEncode2 r w hm h
  · exact refEncode3 r w hm h
end Go.Proofs.Ytcbbnmodjnnbeaa
