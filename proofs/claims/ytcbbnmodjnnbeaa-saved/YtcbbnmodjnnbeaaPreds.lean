/- Which numbers, texts, commands and records may be: the walks of the tests. -/
import Derived.Test.YtcbbnmodjnnbeaaRecs
import Derived.Deep.Light
set_option linter.unusedSimpArgs false
set_option linter.unusedVariables false
namespace Go.Proofs.Ytcbbnmodjnnbeaa
open Go.RowKit

def numB (n : Int) : Bool := decide (0 ≤ n ∧ n ≤ 1000000)
def keyB (s : ByteArray) : Bool := decide (1 ≤ s.size ∧ s.size ≤ 8)
def valB (s : ByteArray) : Bool := decide (s.size ≤ 8)
def noB (s : ByteArray) : Bool := decide (s.size = 0)
def sesB (c : Cmd) : Bool := decide (0 ≤ c.ses) && decide (c.ses ≤ 8) && numB c.seq && ((c.ses == 0) == (c.seq == 0))
def Cmd.may (c : Cmd) : Bool :=
  if c.kind = 0 then Cmd.same c Cmd.zero
  else if c.kind = 1 then sesB c && keyB c.key && valB c.val && noB c.old && (c.rev == 0)
  else if c.kind = 2 then sesB c && keyB c.key && noB c.val && noB c.old && (c.rev == 0)
  else if c.kind = 3 then sesB c && keyB c.key && valB c.val && valB c.old && (c.rev == 0)
  else if c.kind = 4 then sesB c && noB c.key && noB c.val && noB c.old && numB c.rev
  else false
def Rec.may (r : Rec) : Bool :=
  if r.kind = 1 then decide (1 ≤ r.gen) && numB r.gen && numB r.index && numB r.term && numB r.many && decide ((r.data.size : Int) ≤ 1000000) && (r.vote == 0) && Cmd.same r.cmd Cmd.zero
  else if r.kind = 2 then (r.gen == 0) && (r.index == 0) && (r.many == 0) && noB r.data && Cmd.same r.cmd Cmd.zero && numB r.term && decide (-1 ≤ r.vote) && decide (r.vote < 5)
  else if r.kind = 3 then (r.gen == 0) && decide (1 ≤ r.index) && numB r.index && (r.many == 0) && noB r.data && (r.vote == 0) && numB r.term && Cmd.may r.cmd
  else false

theorem bcell {W w1 : World} (hb : Below W.heap.size W w1) : (∀ b o, b < W.heap.size → w1.cell? ⟨b, o, none⟩ = W.cell? ⟨b, o, none⟩) ∧ (∀ b o, b < W.heap.size → w1.frozen? ⟨b, o, none⟩ = W.frozen? ⟨b, o, none⟩) :=
  ⟨fun b o h => hb.cell (p := ⟨b, o, none⟩) h, fun b o h => hb.frozen (p := ⟨b, o, none⟩) h⟩
theorem ret_bool {a b : Bool} (h : a = b) : Ending.returned (.bool a) = .returned (.bool b) := by rw [h]
theorem noB_isEmpty (s : ByteArray) : s.toList.isEmpty = noB s := by
  rw [ByteArray.toList_eq]; obtain ⟨⟨l⟩⟩ := s; cases l <;> simp [noB, ByteArray.size]
theorem keyB_eq (s : ByteArray) : keyB s = (!noB s && valB s) := by
  unfold keyB noB valB; by_cases h1 : s.size = 0
  · simp [h1]
  · by_cases h2 : s.size ≤ 8
    · have h3 : 1 ≤ s.size := by omega
      simp [h1, h2, h3]
    · simp [h1, h2]

set_option maxHeartbeats 400000 in
theorem checkNumber (n : Int) (w : World) :
    Calls Try.prog 79 #[.int .i64 n] w fun e w' => e = .returned (.bool (numB n)) ∧ w' = w := by
  go_enter Try.func79, Try.ntmps79
  go_wp2
  all_goals
    go_ret
    exact ⟨ret_bool (by unfold numB; rw [Bool.eq_iff_iff]; simp; omega), rfl⟩
set_option maxHeartbeats 400000 in
theorem refMay (n l : Int) (w : World) :
    Calls Try.prog 105 #[.int .i64 n, .int .i64 l] w fun e w' => e = .returned (.bool (decide (l ≤ n ∧ n ≤ 1000000))) ∧ w' = w := by
  go_enter Try.func105, Try.ntmps105
  go_wp2
  all_goals
    go_ret
    exact ⟨ret_bool (by rw [Bool.eq_iff_iff]; simp; omega), rfl⟩
set_option maxHeartbeats 400000 in
theorem checkValue (s : ByteArray) (w : World) :
    Calls Try.prog 119 #[.string s] w fun e w' => e = .returned (.bool (valB s)) ∧ w' = w := by
  go_enter Try.func119, Try.ntmps119
  go_wp2
  go_ret
  exact ⟨ret_bool (by unfold valB; rw [Bool.eq_iff_iff]; simp; omega), rfl⟩
set_option maxHeartbeats 400000 in
theorem refValue (s : ByteArray) (w : World) :
    Calls Try.prog 147 #[.string s] w fun e w' => e = .returned (.bool (valB s)) ∧ w' = w := by
  go_enter Try.func147, Try.ntmps147
  go_wp2
  go_ret
  exact ⟨ret_bool (by unfold valB; rw [Bool.eq_iff_iff]; simp; omega), rfl⟩
set_option maxHeartbeats 400000 in
theorem refKey (s : ByteArray) (w : World) :
    Calls Try.prog 146 #[.string s] w fun e w' => e = .returned (.bool (keyB s)) ∧ w' = w := by
  go_enter Try.func146, Try.ntmps146
  go_wp2
  all_goals
    go_ret
    exact ⟨ret_bool (by unfold keyB; rw [Bool.eq_iff_iff]; simp; omega), rfl⟩
set_option maxHeartbeats 400000 in
theorem checkKey (s : ByteArray) (w : World) :
    Calls Try.prog 118 #[.string s] w fun e w' => e = .returned (.bool (keyB s)) ∧ w' = w := by
  have hk := noB_isEmpty s
  go_enter Try.func118, Try.ntmps118
  cases hn : noB s
  all_goals
    rw [hn] at hk
    go_wp2_with (go_at_call 119; refine (checkValue s _).mono ?_; rintro e w1 ⟨rfl, rfl⟩)
    go_ret
    exact ⟨ret_bool (by simp [keyB_eq, hn]), rfl⟩
set_option maxHeartbeats 400000 in
theorem checkSession (c : Cmd) (w : World) :
    Calls Try.prog 117 #[(.agg #[.int .i64 c.kind, .string c.key, .string c.val, .string c.old, .int .i64 c.rev, .int .i64 c.ses, .int .i64 c.seq])] w fun e w' => e = .returned (.bool (sesB c)) ∧ Below w.heap.size w w' := by
  go_enter Try.func117, Try.ntmps117
  go_wp2
  all_goals
    go_ret
    exact ⟨ret_bool (by go_light; simp_all [sesB, numB] <;> (intros; omega)), (Below.refl _ _).alloc (Nat.le_refl _) _⟩
set_option maxHeartbeats 1000000 in
theorem checkCommand (c : Cmd) (w : World) :
    Calls Try.prog 71 #[(.agg #[.int .i64 c.kind, .string c.key, .string c.val, .string c.old, .int .i64 c.rev, .int .i64 c.ses, .int .i64 c.seq])] w fun e w' => e = .returned (.bool c.may) ∧ Below w.heap.size w w' := by
  have hk := noB_isEmpty c.key
  have hv := noB_isEmpty c.val
  have ho := noB_isEmpty c.old
  have heq : ∀ w, (binOp .eql 23 (.agg #[.int .i64 c.kind, .string c.key, .string c.val, .string c.old, .int .i64 c.rev, .int .i64 c.ses, .int .i64 c.seq]) (.agg #[.int .i64 0, .string ⟨#[]⟩, .string ⟨#[]⟩, .string ⟨#[]⟩, .int .i64 0, .int .i64 0, .int .i64 0])).run Try.prog w = .ok (.bool (Cmd.same c Cmd.zero)) w := fun w => eql_cmd c Cmd.zero w
  go_enter Try.func71, Try.ntmps71
  go_wp2_with (first | (go_at_call 119; refine (checkValue _ _).mono ?_; rintro e w1 ⟨rfl, rfl⟩) | (go_at_call 118; refine (checkKey _ _).mono ?_; rintro e w1 ⟨rfl, rfl⟩) | (go_at_call 79; refine (checkNumber _ _).mono ?_; rintro e w1 ⟨rfl, rfl⟩) | (go_at_call 117; refine (checkSession c _).mono ?_; rintro e w1 ⟨rfl, hb1⟩; obtain ⟨hc1, hf1⟩ := bcell hb1))
  all_goals
    go_ret
    refine ⟨ret_bool ?_, ?_⟩
  all_goals go_light
  all_goals first
    | exact (Below.refl _ _).alloc (Nat.le_refl _) _
    | exact ((Below.refl _ _).alloc (Nat.le_refl _) _).trans (hb1.mono (by simp))
    | (clear hk hv ho heq; simp_all [Cmd.may]; done)
theorem same_zero (c : Cmd) : Cmd.same c Cmd.zero = ((c.kind == 0) && (noB c.key && (noB c.val && (noB c.old && ((c.rev == 0) && ((c.ses == 0) && (c.seq == 0))))))) := by
  have h : ∀ s : ByteArray, (s == ByteArray.empty) = noB s := by
    intro s; rw [beq_toListBytes, ← noB_isEmpty, ByteArray.toList_eq, ByteArray.toList_eq]; obtain ⟨⟨l⟩⟩ := s; cases l <;> rfl
  simp only [Cmd.same, Cmd.zero, h]

theorem may_of_not_ses (c : Cmd) (h : sesB c = false) : c.may = false := by
  unfold Cmd.may
  rw [same_zero]
  by_cases h0 : c.kind = 0
  · rw [if_pos h0]
    by_cases h1 : c.ses = 0
    · by_cases h2 : c.seq = 0
      · simp [sesB, numB, h1, h2] at h
      · simp [h2]
    · simp [h1]
  · simp [h, h0]
theorem ses_parts (c : Cmd) : sesB c = true ↔ 0 ≤ c.ses ∧ c.ses ≤ 8 ∧ 0 ≤ c.seq ∧ c.seq ≤ 1000000 ∧ ((c.ses == 0) = (c.seq == 0)) := by
  simp [sesB, numB, and_assoc]
end Go.Proofs.Ytcbbnmodjnnbeaa
