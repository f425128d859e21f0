/- Results, founds and entries as values; what == and != on them come to. -/
import Derived.Test.YtcbbnmodjnnbeaaPreds
import Derived.Test.YtcbbnmodjnnbeaaBook
import Derived.Test.YtcbbnmodjnnbeaaScanP
import Derived.BigQuiet
set_option linter.unusedSimpArgs false
set_option linter.unusedVariables false
namespace Go.Proofs.Ytcbbnmodjnnbeaa
open Go.RowKit

structure Res where
  ok : Bool
  rev : Int
  stale : Bool
structure Fnd where
  key : ByteArray
  val : ByteArray
  rev : Int
structure Entry where
  term : Int
  cmd : Cmd
def Res.cells (r : Res) : List Value := [.bool r.ok, .int .i64 r.rev, .bool r.stale]
def Fnd.cells (r : Fnd) : List Value := [.string r.key, .string r.val, .int .i64 r.rev]
def Entry.cells (r : Entry) : List Value := [.int .i64 r.term, .int .i64 r.cmd.kind, .string r.cmd.key, .string r.cmd.val, .string r.cmd.old, .int .i64 r.cmd.rev, .int .i64 r.cmd.ses, .int .i64 r.cmd.seq]
def Res.same (a b : Res) : Bool := (a.ok == b.ok) && ((a.rev == b.rev) && (a.stale == b.stale))
def Fnd.same (a b : Fnd) : Bool := (a.key == b.key) && ((a.val == b.val) && (a.rev == b.rev))
def Entry.same (a b : Entry) : Bool := (a.term == b.term) && Cmd.same a.cmd b.cmd
theorem Res.same_iff (a b : Res) : Res.same a b = true ↔ a = b := by
  cases a; cases b; simp only [Res.same, Bool.and_eq_true, beq_iff_eq, Res.mk.injEq]
theorem Fnd.same_iff (a b : Fnd) : Fnd.same a b = true ↔ a = b := by
  cases a; cases b; simp only [Fnd.same, Bool.and_eq_true, beq_iff_eq, beq_bytes, Fnd.mk.injEq]
theorem Entry.same_iff (a b : Entry) : Entry.same a b = true ↔ a = b := by
  cases a; cases b; simp only [Entry.same, Bool.and_eq_true, beq_iff_eq, Cmd.same_iff, Entry.mk.injEq]

theorem eqFields_bool {w : World} {d : Nat} {xs ys : Array Value} {n : String} {off bo : Nat} {e : Bool} {tg pk : String} {fs : List Field} {a b : Bool} {r' : Bool} (hn : n ≠ "_") (pa : xs[off]? = some (.bool a)) (pb : ys[off]? = some (.bool b))
    (hr : (Op.eqFields (d + 1) xs ys fs).run Try.prog w = .ok r' w) : (Op.eqFields (d + 1) xs ys (⟨n, 4, off, e, tg, pk, bo⟩ :: fs)).run Try.prog w = .ok ((a == b) && r') w :=
  eqFields_cons w (d + 1) xs ys _ fs _ _ _ _ hn (run_part_plain _ _ _ _ _ (by kernel_rfl) pa) (run_part_plain _ _ _ _ _ (by kernel_rfl) pb) (run_equalIn_bool w d _ a b Try.underlying4) hr

theorem eqIn_res (d : Nat) (a b : Res) (w : World) : (Op.equalIn (d + 2) 72 (.agg #[.bool a.ok, .int .i64 a.rev, .bool a.stale]) (.agg #[.bool b.ok, .int .i64 b.rev, .bool b.stale])).run Try.prog w = .ok (Res.same a b) w := by
  rw [run_equalIn_struct w (d + 1) _ _ _ (by kernel_rfl) (by kernel_rfl)]
  have hf : (Program.fieldsOf Try.prog 72).toList = [⟨ "OK", 4, 0, false, "", "", 0⟩, ⟨ "Rev", 3, 1, false, "", "", 8⟩, ⟨ "Stale", 4, 2, false, "", "", 16⟩] := by kernel_rfl
  rw [hf]
  have h := eqFields_bool (w := w) (d := d) (xs := #[.bool a.ok, .int .i64 a.rev, .bool a.stale]) (ys := #[.bool b.ok, .int .i64 b.rev, .bool b.stale]) (n := "OK") (off := 0) (bo := 0) (e := false) (tg := "") (pk := "") (by decide) rfl rfl
    (eqFields_int (n := "Rev") (off := 1) (bo := 8) (e := false) (tg := "") (pk := "") (by decide) rfl rfl (eqFields_bool (n := "Stale") (off := 2) (bo := 16) (e := false) (tg := "") (pk := "") (by decide) rfl rfl (eqFields_nil _ _ _ _)))
  rw [h, Bool.and_true]
  rfl
theorem eqIn_fnd (d : Nat) (a b : Fnd) (w : World) : (Op.equalIn (d + 2) 131 (.agg #[.string a.key, .string a.val, .int .i64 a.rev]) (.agg #[.string b.key, .string b.val, .int .i64 b.rev])).run Try.prog w = .ok (Fnd.same a b) w := by
  rw [run_equalIn_struct w (d + 1) _ _ _ (by kernel_rfl) (by kernel_rfl)]
  have hf : (Program.fieldsOf Try.prog 131).toList = [⟨ "Key", 9, 0, false, "", "", 0⟩, ⟨ "Value", 9, 1, false, "", "", 16⟩, ⟨ "Rev", 3, 2, false, "", "", 32⟩] := by kernel_rfl
  rw [hf]
  have h := eqFields_str (w := w) (d := d) (xs := #[.string a.key, .string a.val, .int .i64 a.rev]) (ys := #[.string b.key, .string b.val, .int .i64 b.rev]) (n := "Key") (off := 0) (bo := 0) (e := false) (tg := "") (pk := "") (by decide) rfl rfl
    (eqFields_str (n := "Value") (off := 1) (bo := 16) (e := false) (tg := "") (pk := "") (by decide) rfl rfl (eqFields_int (n := "Rev") (off := 2) (bo := 32) (e := false) (tg := "") (pk := "") (by decide) rfl rfl (eqFields_nil _ _ _ _)))
  rw [h, Bool.and_true]
  rfl
theorem part_cmd1 (r : Entry) (w : World) : (part 23 #[.int .i64 r.term, .int .i64 r.cmd.kind, .string r.cmd.key, .string r.cmd.val, .string r.cmd.old, .int .i64 r.cmd.rev, .int .i64 r.cmd.ses, .int .i64 r.cmd.seq] 1).run Try.prog w = .ok r.cmd.v w := by
  kernel_rfl
theorem eqIn_entry (d : Nat) (a b : Entry) (w : World) : (Op.equalIn (d + 3) 135 (.agg a.cells.toArray) (.agg b.cells.toArray)).run Try.prog w = .ok (Entry.same a b) w := by
  rw [run_equalIn_struct w (d + 2) _ _ _ (by kernel_rfl) (by kernel_rfl)]
  have hf : (Program.fieldsOf Try.prog 135).toList = [⟨ "Term", 3, 0, false, "", "", 0⟩, ⟨ "Command", 23, 1, false, "", "", 8⟩] := by kernel_rfl
  rw [hf]
  have h := eqFields_int (w := w) (d := d + 1) (xs := a.cells.toArray) (ys := b.cells.toArray) (n := "Term") (off := 0) (bo := 0) (e := false) (tg := "") (pk := "") (by decide) rfl rfl
    (eqFields_cons w (d + 2) _ _ ⟨ "Command", 23, 1, false, "", "", 8⟩ _ a.cmd.v b.cmd.v _ _ (by decide) (part_cmd1 a w) (part_cmd1 b w) (eqIn_cmd d a.cmd b.cmd w) (eqFields_nil _ _ _ _))
  rw [h, Bool.and_true]
  rfl
theorem neq_res (a b : Res) (w : World) : (binOp .neq 72 (.agg #[.bool a.ok, .int .i64 a.rev, .bool a.stale]) (.agg #[.bool b.ok, .int .i64 b.rev, .bool b.stale])).run Try.prog w = .ok (.bool (!Res.same a b)) w := by
  rw [run_neq_struct, eqIn_res 9998]; rfl
theorem neq_fnd (a b : Fnd) (w : World) : (binOp .neq 131 (.agg #[.string a.key, .string a.val, .int .i64 a.rev]) (.agg #[.string b.key, .string b.val, .int .i64 b.rev])).run Try.prog w = .ok (.bool (!Fnd.same a b)) w := by
  rw [run_neq_struct, eqIn_fnd 9998]; rfl
theorem neq_entry (a b : Entry) (w : World) : (binOp .neq 135 (.agg #[.int .i64 a.term, .int .i64 a.cmd.kind, .string a.cmd.key, .string a.cmd.val, .string a.cmd.old, .int .i64 a.cmd.rev, .int .i64 a.cmd.ses, .int .i64 a.cmd.seq]) (.agg #[.int .i64 b.term, .int .i64 b.cmd.kind, .string b.cmd.key, .string b.cmd.val, .string b.cmd.old, .int .i64 b.cmd.rev, .int .i64 b.cmd.ses, .int .i64 b.cmd.seq])).run Try.prog w = .ok (.bool (!Entry.same a b)) w := by
  have h := eqIn_entry 9997 a b w
  rw [run_neq_struct]
  unfold Entry.cells at h
  rw [h]; rfl
theorem neq_rec (a b : Rec) (w : World) : (binOp .neq 25 (.agg #[.int .i64 a.kind, .int .i64 a.gen, .int .i64 a.index, .int .i64 a.term, .int .i64 a.vote, .int .i64 a.many, .int .i64 a.cmd.kind, .string a.cmd.key, .string a.cmd.val, .string a.cmd.old, .int .i64 a.cmd.rev, .int .i64 a.cmd.ses, .int .i64 a.cmd.seq, .string a.data]) (.agg #[.int .i64 b.kind, .int .i64 b.gen, .int .i64 b.index, .int .i64 b.term, .int .i64 b.vote, .int .i64 b.many, .int .i64 b.cmd.kind, .string b.cmd.key, .string b.cmd.val, .string b.cmd.old, .int .i64 b.cmd.rev, .int .i64 b.cmd.ses, .int .i64 b.cmd.seq, .string b.data])).run Try.prog w = .ok (.bool (!Rec.same a b)) w := by
  have h := eqIn_rec 9997 a b w
  unfold Rec.v at h
  rw [run_neq_struct, h]; rfl
theorem neq_cmd (a b : Cmd) (w : World) : (binOp .neq 23 (.agg #[.int .i64 a.kind, .string a.key, .string a.val, .string a.old, .int .i64 a.rev, .int .i64 a.ses, .int .i64 a.seq]) (.agg #[.int .i64 b.kind, .string b.key, .string b.val, .string b.old, .int .i64 b.rev, .int .i64 b.ses, .int .i64 b.seq])).run Try.prog w = .ok (.bool (!Cmd.same a b)) w := by
  have h := eqIn_cmd 9998 a b w
  unfold Cmd.v at h
  rw [run_neq_struct, h]; rfl
end Go.Proofs.Ytcbbnmodjnnbeaa
/- The marks that the law's book writes: their cells; that a mark is not another one than itself. -/
set_option linter.unusedSimpArgs false
set_option linter.unusedVariables false
namespace Go.Proofs.Ytcbbnmodjnnbeaa
open Go.RowKit

def mkRes (k : Nat) : List Value := [.bool false, .int .i64 (-9 - (k : Int)), .bool false]
theorem mkRes_len (k : Nat) : (mkRes k).length = 3 := rfl
theorem mkRes_at {w : World} {b k : Nat} {t : TypeId} {m : Nat × Nat} (h : w.heap[b]? = some (.cells (mkRes k).toArray t m)) :
    w.cell? ⟨b, 0, none⟩ = some (.bool false) ∧ w.cell? ⟨b, 1, none⟩ = some (.int .i64 (-9 - (k : Int))) ∧ w.cell? ⟨b, 2, none⟩ = some (.bool false) := by
  refine ⟨?_, ?_, ?_⟩ <;> (simp only [World.cell?, h]; rfl)
theorem mkRes_off {w : World} {b p k : Nat} (h : w.rangeAt b p (mkRes k)) :
    w.cell? ⟨b, p, none⟩ = some (.bool false) ∧ w.cell? ⟨b, p + 1, none⟩ = some (.int .i64 (-9 - (k : Int))) ∧ w.cell? ⟨b, p + 2, none⟩ = some (.bool false) :=
  ⟨h 0 _ rfl, h 1 _ rfl, h 2 _ rfl⟩
theorem mkRes_one (k : Nat) : ∀ u ∈ mkRes k, u.oneCell' = true := by
  intro u hu
  simp only [mkRes, List.mem_cons, List.not_mem_nil, or_false] at hu
  rcases hu with rfl | rfl | rfl <;> rfl
theorem mkRes_neq (k : Nat) (w : World) : (binOp .neq 72 (.agg #[.bool false, .int .i64 (-9 - (k : Int)), .bool false]) (.agg #[.bool false, .int .i64 (-9 - (k : Int)), .bool false])).run Try.prog w = .ok (.bool false) w := by
  have h := neq_res ⟨false, -9 - (k : Int), false⟩ ⟨false, -9 - (k : Int), false⟩ w
  rw [(Res.same_iff _ _).2 rfl] at h
  exact h

def mkFnd (k : Nat) : List Value := [.string ⟨#[]⟩, .string ⟨#[]⟩, .int .i64 (-9 - (k : Int))]
theorem mkFnd_len (k : Nat) : (mkFnd k).length = 3 := rfl
theorem mkFnd_at {w : World} {b k : Nat} {t : TypeId} {m : Nat × Nat} (h : w.heap[b]? = some (.cells (mkFnd k).toArray t m)) :
    w.cell? ⟨b, 0, none⟩ = some (.string ⟨#[]⟩) ∧ w.cell? ⟨b, 1, none⟩ = some (.string ⟨#[]⟩) ∧ w.cell? ⟨b, 2, none⟩ = some (.int .i64 (-9 - (k : Int))) := by
  refine ⟨?_, ?_, ?_⟩ <;> (simp only [World.cell?, h]; rfl)
theorem mkFnd_off {w : World} {b p k : Nat} (h : w.rangeAt b p (mkFnd k)) :
    w.cell? ⟨b, p, none⟩ = some (.string ⟨#[]⟩) ∧ w.cell? ⟨b, p + 1, none⟩ = some (.string ⟨#[]⟩) ∧ w.cell? ⟨b, p + 2, none⟩ = some (.int .i64 (-9 - (k : Int))) :=
  ⟨h 0 _ rfl, h 1 _ rfl, h 2 _ rfl⟩
theorem mkFnd_one (k : Nat) : ∀ u ∈ mkFnd k, u.oneCell' = true := by
  intro u hu
  simp only [mkFnd, List.mem_cons, List.not_mem_nil, or_false] at hu
  rcases hu with rfl | rfl | rfl <;> rfl
theorem mkFnd_neq (k : Nat) (w : World) : (binOp .neq 131 (.agg #[.string ⟨#[]⟩, .string ⟨#[]⟩, .int .i64 (-9 - (k : Int))]) (.agg #[.string ⟨#[]⟩, .string ⟨#[]⟩, .int .i64 (-9 - (k : Int))])).run Try.prog w = .ok (.bool false) w := by
  have h := neq_fnd ⟨⟨#[]⟩, ⟨#[]⟩, -9 - (k : Int)⟩ ⟨⟨#[]⟩, ⟨#[]⟩, -9 - (k : Int)⟩ w
  rw [(Fnd.same_iff _ _).2 rfl] at h
  exact h

def mkEty (k : Nat) : List Value := [.int .i64 (-9 - (k : Int)), .int .i64 0, .string ⟨#[]⟩, .string ⟨#[]⟩, .string ⟨#[]⟩, .int .i64 0, .int .i64 0, .int .i64 0]
theorem mkEty_len (k : Nat) : (mkEty k).length = 8 := rfl
theorem mkEty_at {w : World} {b k : Nat} {t : TypeId} {m : Nat × Nat} (h : w.heap[b]? = some (.cells (mkEty k).toArray t m)) :
    w.cell? ⟨b, 0, none⟩ = some (.int .i64 (-9 - (k : Int))) ∧ w.cell? ⟨b, 1, none⟩ = some (.int .i64 0) ∧ w.cell? ⟨b, 2, none⟩ = some (.string ⟨#[]⟩) ∧ w.cell? ⟨b, 3, none⟩ = some (.string ⟨#[]⟩) ∧ w.cell? ⟨b, 4, none⟩ = some (.string ⟨#[]⟩) ∧ w.cell? ⟨b, 5, none⟩ = some (.int .i64 0) ∧ w.cell? ⟨b, 6, none⟩ = some (.int .i64 0) ∧ w.cell? ⟨b, 7, none⟩ = some (.int .i64 0) := by
  refine ⟨?_, ?_, ?_, ?_, ?_, ?_, ?_, ?_⟩ <;> (simp only [World.cell?, h]; rfl)
theorem mkEty_off {w : World} {b p k : Nat} (h : w.rangeAt b p (mkEty k)) :
    w.cell? ⟨b, p, none⟩ = some (.int .i64 (-9 - (k : Int))) ∧ w.cell? ⟨b, p + 1, none⟩ = some (.int .i64 0) ∧ w.cell? ⟨b, p + 2, none⟩ = some (.string ⟨#[]⟩) ∧ w.cell? ⟨b, p + 3, none⟩ = some (.string ⟨#[]⟩) ∧ w.cell? ⟨b, p + 4, none⟩ = some (.string ⟨#[]⟩) ∧ w.cell? ⟨b, p + 5, none⟩ = some (.int .i64 0) ∧ w.cell? ⟨b, p + 6, none⟩ = some (.int .i64 0) ∧ w.cell? ⟨b, p + 7, none⟩ = some (.int .i64 0) :=
  ⟨h 0 _ rfl, h 1 _ rfl, h 2 _ rfl, h 3 _ rfl, h 4 _ rfl, h 5 _ rfl, h 6 _ rfl, h 7 _ rfl⟩
theorem mkEty_one (k : Nat) : ∀ u ∈ mkEty k, u.oneCell' = true := by
  intro u hu
  simp only [mkEty, List.mem_cons, List.not_mem_nil, or_false] at hu
  rcases hu with rfl | rfl | rfl | rfl | rfl | rfl | rfl | rfl <;> rfl
theorem mkEty_neq (k : Nat) (w : World) : (binOp .neq 135 (.agg #[.int .i64 (-9 - (k : Int)), .int .i64 0, .string ⟨#[]⟩, .string ⟨#[]⟩, .string ⟨#[]⟩, .int .i64 0, .int .i64 0, .int .i64 0]) (.agg #[.int .i64 (-9 - (k : Int)), .int .i64 0, .string ⟨#[]⟩, .string ⟨#[]⟩, .string ⟨#[]⟩, .int .i64 0, .int .i64 0, .int .i64 0])).run Try.prog w = .ok (.bool false) w := by
  have h := neq_entry ⟨-9 - (k : Int), 0, ⟨#[]⟩, ⟨#[]⟩, ⟨#[]⟩, 0, 0, 0⟩ ⟨-9 - (k : Int), 0, ⟨#[]⟩, ⟨#[]⟩, ⟨#[]⟩, 0, 0, 0⟩ w
  rw [(Entry.same_iff _ _).2 rfl] at h
  exact h

def mkRec (k : Nat) : List Value := [.int .i64 (-9 - (k : Int)), .int .i64 0, .int .i64 0, .int .i64 0, .int .i64 0, .int .i64 0, .int .i64 0, .string ⟨#[]⟩, .string ⟨#[]⟩, .string ⟨#[]⟩, .int .i64 0, .int .i64 0, .int .i64 0, .string ⟨#[]⟩]
theorem mkRec_len (k : Nat) : (mkRec k).length = 14 := rfl
theorem mkRec_at {w : World} {b k : Nat} {t : TypeId} {m : Nat × Nat} (h : w.heap[b]? = some (.cells (mkRec k).toArray t m)) :
    w.cell? ⟨b, 0, none⟩ = some (.int .i64 (-9 - (k : Int))) ∧ w.cell? ⟨b, 1, none⟩ = some (.int .i64 0) ∧ w.cell? ⟨b, 2, none⟩ = some (.int .i64 0) ∧ w.cell? ⟨b, 3, none⟩ = some (.int .i64 0) ∧ w.cell? ⟨b, 4, none⟩ = some (.int .i64 0) ∧ w.cell? ⟨b, 5, none⟩ = some (.int .i64 0) ∧ w.cell? ⟨b, 6, none⟩ = some (.int .i64 0) ∧ w.cell? ⟨b, 7, none⟩ = some (.string ⟨#[]⟩) ∧ w.cell? ⟨b, 8, none⟩ = some (.string ⟨#[]⟩) ∧ w.cell? ⟨b, 9, none⟩ = some (.string ⟨#[]⟩) ∧ w.cell? ⟨b, 10, none⟩ = some (.int .i64 0) ∧ w.cell? ⟨b, 11, none⟩ = some (.int .i64 0) ∧ w.cell? ⟨b, 12, none⟩ = some (.int .i64 0) ∧ w.cell? ⟨b, 13, none⟩ = some (.string ⟨#[]⟩) := by
  refine ⟨?_, ?_, ?_, ?_, ?_, ?_, ?_, ?_, ?_, ?_, ?_, ?_, ?_, ?_⟩ <;> (simp only [World.cell?, h]; rfl)
theorem mkRec_off {w : World} {b p k : Nat} (h : w.rangeAt b p (mkRec k)) :
    w.cell? ⟨b, p, none⟩ = some (.int .i64 (-9 - (k : Int))) ∧ w.cell? ⟨b, p + 1, none⟩ = some (.int .i64 0) ∧ w.cell? ⟨b, p + 2, none⟩ = some (.int .i64 0) ∧ w.cell? ⟨b, p + 3, none⟩ = some (.int .i64 0) ∧ w.cell? ⟨b, p + 4, none⟩ = some (.int .i64 0) ∧ w.cell? ⟨b, p + 5, none⟩ = some (.int .i64 0) ∧ w.cell? ⟨b, p + 6, none⟩ = some (.int .i64 0) ∧ w.cell? ⟨b, p + 7, none⟩ = some (.string ⟨#[]⟩) ∧ w.cell? ⟨b, p + 8, none⟩ = some (.string ⟨#[]⟩) ∧ w.cell? ⟨b, p + 9, none⟩ = some (.string ⟨#[]⟩) ∧ w.cell? ⟨b, p + 10, none⟩ = some (.int .i64 0) ∧ w.cell? ⟨b, p + 11, none⟩ = some (.int .i64 0) ∧ w.cell? ⟨b, p + 12, none⟩ = some (.int .i64 0) ∧ w.cell? ⟨b, p + 13, none⟩ = some (.string ⟨#[]⟩) :=
  ⟨h 0 _ rfl, h 1 _ rfl, h 2 _ rfl, h 3 _ rfl, h 4 _ rfl, h 5 _ rfl, h 6 _ rfl, h 7 _ rfl, h 8 _ rfl, h 9 _ rfl, h 10 _ rfl, h 11 _ rfl, h 12 _ rfl, h 13 _ rfl⟩
theorem mkRec_one (k : Nat) : ∀ u ∈ mkRec k, u.oneCell' = true := by
  intro u hu
  simp only [mkRec, List.mem_cons, List.not_mem_nil, or_false] at hu
  rcases hu with rfl | rfl | rfl | rfl | rfl | rfl | rfl | rfl | rfl | rfl | rfl | rfl | rfl | rfl <;> rfl
theorem mkRec_neq (k : Nat) (w : World) : (binOp .neq 25 (.agg #[.int .i64 (-9 - (k : Int)), .int .i64 0, .int .i64 0, .int .i64 0, .int .i64 0, .int .i64 0, .int .i64 0, .string ⟨#[]⟩, .string ⟨#[]⟩, .string ⟨#[]⟩, .int .i64 0, .int .i64 0, .int .i64 0, .string ⟨#[]⟩]) (.agg #[.int .i64 (-9 - (k : Int)), .int .i64 0, .int .i64 0, .int .i64 0, .int .i64 0, .int .i64 0, .int .i64 0, .string ⟨#[]⟩, .string ⟨#[]⟩, .string ⟨#[]⟩, .int .i64 0, .int .i64 0, .int .i64 0, .string ⟨#[]⟩])).run Try.prog w = .ok (.bool false) w := by
  have h := neq_rec ⟨-9 - (k : Int), 0, 0, 0, 0, 0, ⟨0, ⟨#[]⟩, ⟨#[]⟩, ⟨#[]⟩, 0, 0, 0⟩, ⟨#[]⟩⟩ ⟨-9 - (k : Int), 0, 0, 0, 0, 0, ⟨0, ⟨#[]⟩, ⟨#[]⟩, ⟨#[]⟩, 0, 0, 0⟩, ⟨#[]⟩⟩ w
  rw [(Rec.same_iff _ _).2 rfl] at h
  exact h

theorem book_cells {w : World} {bp : Nat} {a b c d : Value} {t : TypeId} (h : w.heap[bp]? = some (.cells #[a, b, c, d] t)) :
    w.cell? ⟨bp, 0, none⟩ = some a ∧ w.cell? ⟨bp, 1, none⟩ = some b ∧ w.cell? ⟨bp, 2, none⟩ = some c ∧ w.cell? ⟨bp, 3, none⟩ = some d ∧ ∀ o, w.frozen? ⟨bp, o, none⟩ = false := by
  refine ⟨?_, ?_, ?_, ?_, fun o => ?_⟩
  · simp only [World.cell?, h]; rfl
  · simp only [World.cell?, h]; rfl
  · simp only [World.cell?, h]; rfl
  · simp only [World.cell?, h]; rfl
  · simp [World.frozen?, h]
def Held (p : Prop) : Prop := p
theorem Held.out {p : Prop} (h : Held p) : p := h
end Go.Proofs.Ytcbbnmodjnnbeaa
/- The law's own comparison of two lists: sameRecords. -/
set_option linter.unusedSimpArgs false
set_option linter.unusedVariables false
namespace Go.Proofs.Ytcbbnmodjnnbeaa
open Go.RowKit

theorem Rec.off {w : World} {b p : Nat} {r : Rec} (h : w.rangeAt b p r.cells) :
    w.cell? ⟨b, p, none⟩ = some (.int .i64 r.kind) ∧ w.cell? ⟨b, p + 1, none⟩ = some (.int .i64 r.gen) ∧ w.cell? ⟨b, p + 2, none⟩ = some (.int .i64 r.index) ∧ w.cell? ⟨b, p + 3, none⟩ = some (.int .i64 r.term) ∧ w.cell? ⟨b, p + 4, none⟩ = some (.int .i64 r.vote) ∧ w.cell? ⟨b, p + 5, none⟩ = some (.int .i64 r.many) ∧ w.cell? ⟨b, p + 6, none⟩ = some (.int .i64 r.cmd.kind) ∧ w.cell? ⟨b, p + 7, none⟩ = some (.string r.cmd.key) ∧ w.cell? ⟨b, p + 8, none⟩ = some (.string r.cmd.val) ∧ w.cell? ⟨b, p + 9, none⟩ = some (.string r.cmd.old) ∧ w.cell? ⟨b, p + 10, none⟩ = some (.int .i64 r.cmd.rev) ∧ w.cell? ⟨b, p + 11, none⟩ = some (.int .i64 r.cmd.ses) ∧ w.cell? ⟨b, p + 12, none⟩ = some (.int .i64 r.cmd.seq) ∧ w.cell? ⟨b, p + 13, none⟩ = some (.string r.data) :=
  ⟨h 0 _ rfl, h 1 _ rfl, h 2 _ rfl, h 3 _ rfl, h 4 _ rfl, h 5 _ rfl, h 6 _ rfl, h 7 _ rfl, h 8 _ rfl, h 9 _ rfl, h 10 _ rfl, h 11 _ rfl, h 12 _ rfl, h 13 _ rfl⟩
theorem Rec.at_reads {w : World} {a : Option Addr} {n cap : Nat} {rs : List Rec} (h : w.reads 14 (.slice a n cap) (rs.map Rec.cells)) {k : Nat} (hk : k < rs.length) : ∃ g o, a = some ⟨g, o, none⟩ ∧ g < w.heap.size ∧ w.rangeAt g (o + k * 14) rs[k].cells := by
  rcases h with ⟨_, h2⟩ | ⟨g, off, cap', hv, hg, hc⟩
  · have : rs = [] := by simpa using h2
    subst this; simp at hk
  · injection hv with h1 h2 h3
    exact ⟨g, off, h1, hg, (hc k rs[k].cells (by rw [List.getElem?_map, List.getElem?_eq_getElem hk]; rfl)).2⟩
set_option maxRecDepth 100000 in
set_option maxHeartbeats 1000000 in
theorem sameRecords_same (a1 a2 : Option Addr) (c1 c2 : Nat) (rs : List Rec) (w : World) (hn : rs.length ≤ 281474976710656) (h1 : w.reads 14 (.slice a1 rs.length c1) (rs.map Rec.cells)) (h2 : w.reads 14 (.slice a2 rs.length c2) (rs.map Rec.cells)) :
    Calls Try.prog 20 #[.slice a1 rs.length c1, .slice a2 rs.length c2] w fun e w' => e = .returned (.bool true) ∧ ∃ n, w' = w.drewN n := by
  have heqn := neq_rec
  go_enter Try.func20, Try.ntmps20
  go_wp2
  go_loopw [5] (fun i wr => ∃ k : Nat, k ≤ rs.length ∧ i = .int .i64 k ∧ ∃ n, wr = w.drewN n) (fun i _ => rs.length - (intOf i).toNat)
  case atStart => exact ⟨0, Nat.zero_le _, rfl, 0, rfl⟩
  case round =>
    obtain ⟨k, hk, rfl, n, rfl⟩ := hrel
    by_cases hlt : k < rs.length
    · obtain ⟨g1, o1, rfl, hg1, hr1⟩ := Rec.at_reads h1 hlt
      obtain ⟨g2, o2, rfl, hg2, hr2⟩ := Rec.at_reads h2 hlt
      generalize rs[k] = c at hr1 hr2
      obtain ⟨x0, x1, x2, x3, x4, x5, x6, x7, x8, x9, x10, x11, x12, x13⟩ := Rec.off hr1
      obtain ⟨y0, y1, y2, y3, y4, y5, y6, y7, y8, y9, y10, y11, y12, y13⟩ := Rec.off hr2
      have hcc : Rec.same c c = true := (Rec.same_iff c c).2 rfl
      clear hr1 hr2 h1 h2
      go_wp2
      go_quiet (fail)
      go_wp2
      exact ⟨⟨k + 1, by omega, val_int (by omega), n + nq, rfl⟩, by simp [intOf]; omega⟩
    · have hkk : k = rs.length := by omega
      subst hkk
      go_wp2
      go_ret
      exact ⟨rfl, n, rfl⟩
end Go.Proofs.Ytcbbnmodjnnbeaa
