/- Results, founds and entries as values; what == and != on them come to. -/
import Derived.Test.YtcbbnmodjnnbeaaPreds
set_option linter.unusedSimpArgs false
set_option linter.unusedVariables false
namespace Go.Proofs.Ytcbbnmodjnnbeaa
open Go.RowKit

structure Res where
  ok : Bool
  rev : Int
  stale : Bool
structure Fnd where
  key : ByteArray
  val : ByteArray
  rev : Int
structure Entry where
  term : Int
  cmd : Cmd
def Res.cells (r : Res) : List Value := [.bool r.ok, .int .i64 r.rev, .bool r.stale]
def Fnd.cells (r : Fnd) : List Value := [.string r.key, .string r.val, .int .i64 r.rev]
def Entry.cells (r : Entry) : List Value := [.int .i64 r.term, .int .i64 r.cmd.kind, .string r.cmd.key, .string r.cmd.val, .string r.cmd.old, .int .i64 r.cmd.rev, .int .i64 r.cmd.ses, .int .i64 r.cmd.seq]
def Res.same (a b : Res) : Bool := (a.ok == b.ok) && ((a.rev == b.rev) && (a.stale == b.stale))
def Fnd.same (a b : Fnd) : Bool := (a.key == b.key) && ((a.val == b.val) && (a.rev == b.rev))
def Entry.same (a b : Entry) : Bool := (a.term == b.term) && Cmd.same a.cmd b.cmd
theorem Res.same_iff (a b : Res) : Res.same a b = true ↔ a = b := by
  cases a; cases b; simp only [Res.same, Bool.and_eq_true, beq_iff_eq, Res.mk.injEq]
theorem Fnd.same_iff (a b : Fnd) : Fnd.same a b = true ↔ a = b := by
  cases a; cases b; simp only [Fnd.same, Bool.and_eq_true, beq_iff_eq, beq_bytes, Fnd.mk.injEq]
theorem Entry.same_iff (a b : Entry) : Entry.same a b = true ↔ a = b := by
  cases a; cases b; simp only [Entry.same, Bool.and_eq_true, beq_iff_eq, Cmd.same_iff, Entry.mk.injEq]

theorem eqFields_bool {w : World} {d : Nat} {xs ys : Array Value} {n : String} {off bo : Nat} {e : Bool} {tg pk : String} {fs : List Field} {a b : Bool} {r' : Bool} (hn : n ≠ "_") (pa : xs[off]? = some (.bool a)) (pb : ys[off]? = some (.bool b))
    (hr : (Op.eqFields (d + 1) xs ys fs).run Try.prog w = .ok r' w) : (Op.eqFields (d + 1) xs ys (⟨n, 4, off, e, tg, pk, bo⟩ :: fs)).run Try.prog w = .ok ((a == b) && r') w :=
  eqFields_cons w (d + 1) xs ys _ fs _ _ _ _ hn (run_part_plain _ _ _ _ _ (by kernel_rfl) pa) (run_part_plain _ _ _ _ _ (by kernel_rfl) pb) (run_equalIn_bool w d _ a b Try.underlying4) hr

theorem eqIn_res (d : Nat) (a b : Res) (w : World) : (Op.equalIn (d + 2) 72 (.agg #[.bool a.ok, .int .i64 a.rev, .bool a.stale]) (.agg #[.bool b.ok, .int .i64 b.rev, .bool b.stale])).run Try.prog w = .ok (Res.same a b) w := by
  rw [run_equalIn_struct w (d + 1) _ _ _ (by kernel_rfl) (by kernel_rfl)]
  have hf : (Program.fieldsOf Try.prog 72).toList = [⟨ "OK", 4, 0, false, "", "", 0⟩, ⟨ "Rev", 3, 1, false, "", "", 8⟩, ⟨ "Stale", 4, 2, false, "", "", 16⟩] := by kernel_rfl
  rw [hf]
  have h := eqFields_bool (w := w) (d := d) (xs := #[.bool a.ok, .int .i64 a.rev, .bool a.stale]) (ys := #[.bool b.ok, .int .i64 b.rev, .bool b.stale]) (n := "OK") (off := 0) (bo := 0) (e := false) (tg := "") (pk := "") (by decide) rfl rfl
    (eqFields_int (n := "Rev") (off := 1) (bo := 8) (e := false) (tg := "") (pk := "") (by decide) rfl rfl (eqFields_bool (n := "Stale") (off := 2) (bo := 16) (e := false) (tg := "") (pk := "") (by decide) rfl rfl (eqFields_nil _ _ _ _)))
  rw [h, Bool.and_true]
  rfl
theorem eqIn_fnd (d : Nat) (a b : Fnd) (w : World) : (Op.equalIn (d + 2) 131 (.agg #[.string a.key, .string a.val, .int .i64 a.rev]) (.agg #[.string b.key, .string b.val, .int .i64 b.rev])).run Try.prog w = .ok (Fnd.same a b) w := by
  rw [run_equalIn_struct w (d + 1) _ _ _ (by kernel_rfl) (by kernel_rfl)]
  have hf : (Program.fieldsOf Try.prog 131).toList = [⟨ "Key", 9, 0, false, "", "", 0⟩, ⟨ "Value", 9, 1, false, "", "", 16⟩, ⟨ "Rev", 3, 2, false, "", "", 32⟩] := by kernel_rfl
  rw [hf]
  have h := eqFields_str (w := w) (d := d) (xs := #[.string a.key, .string a.val, .int .i64 a.rev]) (ys := #[.string b.key, .string b.val, .int .i64 b.rev]) (n := "Key") (off := 0) (bo := 0) (e := false) (tg := "") (pk := "") (by decide) rfl rfl
    (eqFields_str (n := "Value") (off := 1) (bo := 16) (e := false) (tg := "") (pk := "") (by decide) rfl rfl (eqFields_int (n := "Rev") (off := 2) (bo := 32) (e := false) (tg := "") (pk := "") (by decide) rfl rfl (eqFields_nil _ _ _ _)))
  rw [h, Bool.and_true]
  rfl
theorem part_cmd1 (r : Entry) (w : World) : (part 23 #[.int .i64 r.term, .int .i64 r.cmd.kind, .string r.cmd.key, .string r.cmd.val, .string r.cmd.old, .int .i64 r.cmd.rev, .int .i64 r.cmd.ses, .int .i64 r.cmd.seq] 1).run Try.prog w = .ok r.cmd.v w := by
  kernel_rfl
theorem eqIn_entry (d : Nat) (a b : Entry) (w : World) : (Op.equalIn (d + 3) 135 (.agg a.cells.toArray) (.agg b.cells.toArray)).run Try.prog w = .ok (Entry.same a b) w := by
  rw [run_equalIn_struct w (d + 2) _ _ _ (by kernel_rfl) (by kernel_rfl)]
  have hf : (Program.fieldsOf Try.prog 135).toList = [⟨ "Term", 3, 0, false, "", "", 0⟩, ⟨ "Command", 23, 1, false, "", "", 8⟩] := by kernel_rfl
  rw [hf]
  have h := eqFields_int (w := w) (d := d + 1) (xs := a.cells.toArray) (ys := b.cells.toArray) (n := "Term") (off := 0) (bo := 0) (e := false) (tg := "") (pk := "") (by decide) rfl rfl
    (eqFields_cons w (d + 2) _ _ ⟨ "Command", 23, 1, false, "", "", 8⟩ _ a.cmd.v b.cmd.v _ _ (by decide) (part_cmd1 a w) (part_cmd1 b w) (eqIn_cmd d a.cmd b.cmd w) (eqFields_nil _ _ _ _))
  rw [h, Bool.and_true]
  rfl
theorem neq_res (a b : Res) (w : World) : (binOp .neq 72 (.agg #[.bool a.ok, .int .i64 a.rev, .bool a.stale]) (.agg #[.bool b.ok, .int .i64 b.rev, .bool b.stale])).run Try.prog w = .ok (.bool (!Res.same a b)) w := by
  rw [run_neq_struct, eqIn_res 9998]; rfl
theorem neq_fnd (a b : Fnd) (w : World) : (binOp .neq 131 (.agg #[.string a.key, .string a.val, .int .i64 a.rev]) (.agg #[.string b.key, .string b.val, .int .i64 b.rev])).run Try.prog w = .ok (.bool (!Fnd.same a b)) w := by
  rw [run_neq_struct, eqIn_fnd 9998]; rfl
theorem neq_entry (a b : Entry) (w : World) : (binOp .neq 135 (.agg #[.int .i64 a.term, .int .i64 a.cmd.kind, .string a.cmd.key, .string a.cmd.val, .string a.cmd.old, .int .i64 a.cmd.rev, .int .i64 a.cmd.ses, .int .i64 a.cmd.seq]) (.agg #[.int .i64 b.term, .int .i64 b.cmd.kind, .string b.cmd.key, .string b.cmd.val, .string b.cmd.old, .int .i64 b.cmd.rev, .int .i64 b.cmd.ses, .int .i64 b.cmd.seq])).run Try.prog w = .ok (.bool (!Entry.same a b)) w := by
  have h := eqIn_entry 9997 a b w
  rw [run_neq_struct]
  unfold Entry.cells at h
  rw [h]; rfl
theorem neq_rec (a b : Rec) (w : World) : (binOp .neq 25 (.agg #[.int .i64 a.kind, .int .i64 a.gen, .int .i64 a.index, .int .i64 a.term, .int .i64 a.vote, .int .i64 a.many, .int .i64 a.cmd.kind, .string a.cmd.key, .string a.cmd.val, .string a.cmd.old, .int .i64 a.cmd.rev, .int .i64 a.cmd.ses, .int .i64 a.cmd.seq, .string a.data]) (.agg #[.int .i64 b.kind, .int .i64 b.gen, .int .i64 b.index, .int .i64 b.term, .int .i64 b.vote, .int .i64 b.many, .int .i64 b.cmd.kind, .string b.cmd.key, .string b.cmd.val, .string b.cmd.old, .int .i64 b.cmd.rev, .int .i64 b.cmd.ses, .int .i64 b.cmd.seq, .string b.data])).run Try.prog w = .ok (.bool (!Rec.same a b)) w := by
  have h := eqIn_rec 9997 a b w
  unfold Rec.v at h
  rw [run_neq_struct, h]; rfl
theorem neq_cmd (a b : Cmd) (w : World) : (binOp .neq 23 (.agg #[.int .i64 a.kind, .string a.key, .string a.val, .string a.old, .int .i64 a.rev, .int .i64 a.ses, .int .i64 a.seq]) (.agg #[.int .i64 b.kind, .string b.key, .string b.val, .string b.old, .int .i64 b.rev, .int .i64 b.ses, .int .i64 b.seq])).run Try.prog w = .ok (.bool (!Cmd.same a b)) w := by
  have h := eqIn_cmd 9998 a b w
  unfold Cmd.v at h
  rw [run_neq_struct, h]; rfl
end Go.Proofs.Ytcbbnmodjnnbeaa
