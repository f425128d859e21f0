/- The document's own Encode. -/
import Derived.Test.YtcbbnmodjnnbeaaNum
import Derived.Test.YtcbbnmodjnnbeaaMay
import Derived.Test.YtcbbnmodjnnbeaaExt
set_option linter.unusedSimpArgs false
set_option linter.unusedVariables false
namespace Go.Proofs.Ytcbbnmodjnnbeaa
open Go.RowKit

@[go_sem] theorem B_append_r (a : List UInt8) (s : ByteArray) : B a ++ s = B (a ++ s.data.toList) := bytes_ext (by rw [list_append]; simp only [B_list])
@[go_sem] theorem B_list' (l : List UInt8) : (B l).data.toList = l := rfl

def cmdL (c : Cmd) : List UInt8 := be 1 c.kind.toNat ++ be 1 c.ses.toNat ++ be 3 c.seq.toNat ++ (be 1 c.key.size ++ c.key.data.toList) ++ (be 1 c.val.size ++ c.val.data.toList) ++ (be 1 c.old.size ++ c.old.data.toList) ++ be 3 c.rev.toNat
def bodyL (r : Rec) : List UInt8 :=
  if r.kind = 1 then be 1 1 ++ (be 3 r.gen.toNat ++ be 3 r.index.toNat ++ be 3 r.term.toNat ++ be 3 r.many.toNat ++ be 3 r.data.size ++ r.data.data.toList)
  else if r.kind = 2 then be 1 2 ++ (be 3 r.term.toNat ++ be 1 (r.vote + 1).toNat)
  else be 1 3 ++ (be 3 r.index.toNat ++ be 3 r.term.toNat ++ cmdL r.cmd)
def encL (r : Rec) : List UInt8 := bodyL r ++ be 4 (By.sum (bodyL r))

structure CmdBd (c : Cmd) : Prop where
  k0 : 0 ≤ c.kind
  k4 : c.kind ≤ 4
  s0 : 0 ≤ c.ses
  s8 : c.ses ≤ 8
  q0 : 0 ≤ c.seq
  q1 : c.seq ≤ 1000000
  key : c.key.size ≤ 8
  val : c.val.size ≤ 8
  old : c.old.size ≤ 8
  r0 : 0 ≤ c.rev
  r1 : c.rev ≤ 1000000

theorem cmd_bd (c : Cmd) (h : c.may = true) : CmdBd c := by
  have hs : sesB c = true := by
    cases hs : sesB c
    · rw [may_of_not_ses c hs] at h; exact Bool.noConfusion h
    · rfl
  obtain ⟨r1, r2, r3, r4, _⟩ := (ses_parts c).1 hs
  have n1 : ∀ s, noB s = true → s.size ≤ 8 := fun s h => by have := of_decide_eq_true h; omega
  have n2 : ∀ s, keyB s = true → s.size ≤ 8 := fun s h => (of_decide_eq_true h).2
  have n3 : ∀ s, valB s = true → s.size ≤ 8 := fun s h => of_decide_eq_true h
  unfold Cmd.may at h
  rw [same_zero, hs] at h
  by_cases k0 : c.kind = 0
  · simp [k0] at h; constructor <;> first | omega | exact n1 _ (by simp [h])
  · by_cases k1 : c.kind = 1
    · simp [k1] at h; constructor <;> first | omega | exact n1 _ (by simp [h]) | exact n2 _ (by simp [h]) | exact n3 _ (by simp [h])
    · by_cases k2 : c.kind = 2
      · simp [k2] at h; constructor <;> first | omega | exact n1 _ (by simp [h]) | exact n2 _ (by simp [h]) | exact n3 _ (by simp [h])
      · by_cases k3 : c.kind = 3
        · simp [k3] at h; constructor <;> first | omega | exact n1 _ (by simp [h]) | exact n2 _ (by simp [h]) | exact n3 _ (by simp [h])
        · by_cases k4 : c.kind = 4
          · simp [k4, numB] at h; constructor <;> first | omega | exact n1 _ (by simp [h]) | exact n2 _ (by simp [h]) | exact n3 _ (by simp [h])
          · simp [k0, k1, k2, k3, k4] at h

theorem rec_bd1 (r : Rec) (h : r.may = true) (hk : r.kind = 1) : 1 ≤ r.gen ∧ r.gen ≤ 1000000 ∧ 0 ≤ r.index ∧ r.index ≤ 1000000 ∧ 0 ≤ r.term ∧ r.term ≤ 1000000 ∧ 0 ≤ r.many ∧ r.many ≤ 1000000 ∧ r.data.size ≤ 1000000 ∧ r.vote = 0 ∧ r.cmd = Cmd.zero := by
  simp [Rec.may, hk, numB, Cmd.same_iff] at h; obtain ⟨⟨h1, h2⟩, h3⟩ := h; refine ⟨?_, ?_, ?_, ?_, ?_, ?_, ?_, ?_, ?_, h2, h3⟩ <;> omega
theorem rec_bd2 (r : Rec) (h : r.may = true) (hk : r.kind = 2) : 0 ≤ r.term ∧ r.term ≤ 1000000 ∧ -1 ≤ r.vote ∧ r.vote ≤ 4 := by
  simp [Rec.may, hk, numB] at h; omega
theorem rec_bd3 (r : Rec) (h : r.may = true) (hk : r.kind = 3) : 1 ≤ r.index ∧ r.index ≤ 1000000 ∧ 0 ≤ r.term ∧ r.term ≤ 1000000 ∧ r.cmd.may = true := by
  simp [Rec.may, hk, numB] at h; obtain ⟨h1, h2⟩ := h; refine ⟨?_, ?_, ?_, ?_, h2⟩ <;> omega
theorem rec_kind (r : Rec) (h : r.may = true) : r.kind = 1 ∨ r.kind = 2 ∨ r.kind = 3 := by
  by_cases k1 : r.kind = 1
  · exact .inl k1
  · by_cases k2 : r.kind = 2
    · exact .inr (.inl k2)
    · by_cases k3 : r.kind = 3
      · exact .inr (.inr k3)
      · simp [Rec.may, k1, k2, k3] at h

theorem num1 (n : Int) (w : World) (h0 : 0 ≤ n) (h1 : n ≤ 4611686018427387904) :
    Calls Try.prog 51 #[.int .i64 n, .int .i64 1] w fun e w' => e = .returned (.string (B (be 1 n.toNat))) ∧ Below w.heap.size w w' := by
  obtain ⟨m, rfl⟩ := Int.eq_ofNat_of_zero_le h0
  exact refNumber m 1 w (by omega) (by omega)
theorem num3 (n : Int) (w : World) (h0 : 0 ≤ n) (h1 : n ≤ 4611686018427387904) :
    Calls Try.prog 51 #[.int .i64 n, .int .i64 3] w fun e w' => e = .returned (.string (B (be 3 n.toNat))) ∧ Below w.heap.size w w' := by
  obtain ⟨m, rfl⟩ := Int.eq_ofNat_of_zero_le h0
  exact refNumber m 3 w (by omega) (by omega)
theorem num4 (n : Nat) (w : World) (h1 : n ≤ 4611686018427387904) :
    Calls Try.prog 51 #[.int .i64 n, .int .i64 4] w fun e w' => e = .returned (.string (B (be 4 n))) ∧ Below w.heap.size w w' :=
  refNumber n 4 w (by omega) (by omega)

set_option maxHeartbeats 400000 in
theorem refText (s : ByteArray) (w : World) (hs : s.size ≤ 1000) :
    Calls Try.prog 107 #[.string s] w fun e w' => e = .returned (.string (B (be 1 s.size ++ s.data.toList))) ∧ Below w.heap.size w w' := by
  go_enter Try.func107, Try.ntmps107
  go_wp2_with (go_at_call 51; refine (num1 _ _ (by omega) (by omega)).mono ?_; rintro e w1 ⟨rfl, hb1⟩)
  go_ret
  exact ⟨rfl, hb1⟩

set_option maxHeartbeats 1000000 in
theorem refCommand (c : Cmd) (w : World) (h : CmdBd c) :
    Calls Try.prog 52 #[(.agg #[.int .i64 c.kind, .string c.key, .string c.val, .string c.old, .int .i64 c.rev, .int .i64 c.ses, .int .i64 c.seq])] w fun e w' => e = .returned (.string (B (cmdL c))) ∧ Below w.heap.size w w' := by
  obtain ⟨k0, k4, s0, s8, q0, q1, key, val, old, r0, r1⟩ := h
  go_enter Try.func52, Try.ntmps52
  go_wp2_with fail
  refine wp_region_grows (by kernel_rfl) (by kernel_rfl) ?_
  repeat (first | quiet_step (fail) | (refine wpQuiet_step (fun K hK => ?_); go_simp; simp only [↓IntWalk.iteOmega]; go_simp; refine hK _ ?_; clear hK K))
  quiet_step (exact Calls.grows (num1 _ _ (by omega) (by omega)))
  repeat (first | quiet_step (fail) | (refine wpQuiet_step (fun K hK => ?_); go_simp; simp only [↓IntWalk.iteOmega]; go_simp; refine hK _ ?_; clear hK K))
  quiet_step (exact Calls.grows (num1 _ _ (by omega) (by omega)))
  repeat (first | quiet_step (fail) | (refine wpQuiet_step (fun K hK => ?_); go_simp; simp only [↓IntWalk.iteOmega]; go_simp; refine hK _ ?_; clear hK K))
  quiet_step (exact Calls.grows (num3 _ _ (by omega) (by omega)))
  repeat (first | quiet_step (fail) | (refine wpQuiet_step (fun K hK => ?_); go_simp; simp only [↓IntWalk.iteOmega]; go_simp; refine hK _ ?_; clear hK K))
  quiet_step (exact Calls.grows (refText c.key _ (by omega)))
  repeat (first | quiet_step (fail) | (refine wpQuiet_step (fun K hK => ?_); go_simp; simp only [↓IntWalk.iteOmega]; go_simp; refine hK _ ?_; clear hK K))
  quiet_step (exact Calls.grows (refText c.val _ (by omega)))
  repeat (first | quiet_step (fail) | (refine wpQuiet_step (fun K hK => ?_); go_simp; simp only [↓IntWalk.iteOmega]; go_simp; refine hK _ ?_; clear hK K))
  quiet_step (exact Calls.grows (refText c.old _ (by omega)))
  repeat (first | quiet_step (fail) | (refine wpQuiet_step (fun K hK => ?_); go_simp; simp only [↓IntWalk.iteOmega]; go_simp; refine hK _ ?_; clear hK K))
  quiet_step (exact Calls.grows (num3 _ _ (by omega) (by omega)))
  repeat (first | quiet_step (fail) | (refine wpQuiet_step (fun K hK => ?_); go_simp; simp only [↓IntWalk.iteOmega]; go_simp; refine hK _ ?_; clear hK K))
  refine wpQuiet_nil ?_
  rintro _ ⟨x, rfl⟩
  go_wp2
  go_ret
  exact ⟨ret_str (by simp [cmdL]), ((Below.refl _ _).alloc (Nat.le_refl _) _).trans ((Below.of_ext _ _).mono (by simp))⟩
end Go.Proofs.Ytcbbnmodjnnbeaa
