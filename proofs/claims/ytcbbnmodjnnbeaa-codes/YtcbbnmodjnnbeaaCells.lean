/- Arguments as cells: what a command and a record read as. -/
import Derived.Test.YtcbbnmodjnnbeaaRows
import Derived.Test.YtcbbnmodjnnbeaaPreds
import Derived.ProofKit
set_option linter.unusedSimpArgs false
set_option linter.unusedVariables false
namespace Go.Proofs.Ytcbbnmodjnnbeaa
open Go.ChangeShapes Go.WideShapes Go.ChangeAt Go.RowKit
open Go.WideMaps Go.WideElems
open Go.ChangeMaps (setBlock shut_map_nil open_string shut_string keptBut_setBlock frozen?_setBlock heap_setBlock_same)

theorem Try.own : ownKnob Try.prog.godebug = none := by kernel_rfl
theorem Try.laidOut : laidOutB Try.prog = true := by kernel_rfl

section
variable {H : Type} {enc : TypeId × Value → H} {w : World} {base : Nat} {spare : Nat → Bool} {held : Bool}
theorem int_cell {n : Nat} {c : Value} {xs : List (DataW H × List MemPlace)} {i : Nat} (h : DataW.trod enc Try.prog w base spare held n 3 [c] = xs[i]?) (hi : i < xs.length) : ∃ m, c = .int .i64 m := by
  rw [List.getElem?_eq_getElem hi] at h
  obtain ⟨m, e, _, _⟩ := DataW.trod_int Try.underlying3 h
  exact ⟨m, by simpa using e⟩
theorem str_cell {n : Nat} {c : Value} {xs : List (DataW H × List MemPlace)} {i : Nat} (h : DataW.trod enc Try.prog w base spare held n 9 [c] = xs[i]?) (hi : i < xs.length) : ∃ s, c = .string s := by
  rw [List.getElem?_eq_getElem hi] at h
  obtain ⟨s, e, _⟩ := DataW.trod_string Try.underlying9 h
  exact ⟨s, by simpa using e⟩
set_option maxRecDepth 100000 in
theorem cmd_cells {n : Nat} {cs : List Value} {x : DataW H × List MemPlace} (h : DataW.trod enc Try.prog w base spare held n 23 cs = some x) : ∃ c : Cmd, cs = c.cells := by
  obtain ⟨xs, k, rfl, rfl, hl, hx, hf⟩ := DataW.trod_struct Try.underlying23 h
  have hl' : cs.length = 7 := hl.trans (by kernel_rfl)
  have hx' : xs.length = 7 := hx
  match cs, hl' with
  | [c0, c1, c2, c3, c4, c5, c6], _ =>
    obtain ⟨m0, rfl⟩ := int_cell (i := 0) (hf 0 _ rfl) (by omega)
    obtain ⟨m1, rfl⟩ := str_cell (i := 1) (hf 1 _ rfl) (by omega)
    obtain ⟨m2, rfl⟩ := str_cell (i := 2) (hf 2 _ rfl) (by omega)
    obtain ⟨m3, rfl⟩ := str_cell (i := 3) (hf 3 _ rfl) (by omega)
    obtain ⟨m4, rfl⟩ := int_cell (i := 4) (hf 4 _ rfl) (by omega)
    obtain ⟨m5, rfl⟩ := int_cell (i := 5) (hf 5 _ rfl) (by omega)
    obtain ⟨m6, rfl⟩ := int_cell (i := 6) (hf 6 _ rfl) (by omega)
    exact ⟨⟨m0, m1, m2, m3, m4, m5, m6⟩, rfl⟩
set_option maxRecDepth 100000 in
theorem rec_cells {n : Nat} {cs : List Value} {x : DataW H × List MemPlace} (h : DataW.trod enc Try.prog w base spare held n 25 cs = some x) : ∃ r : Rec, cs = #[.int .i64 r.kind, .int .i64 r.gen, .int .i64 r.index, .int .i64 r.term, .int .i64 r.vote, .int .i64 r.many, .int .i64 r.cmd.kind, .string r.cmd.key, .string r.cmd.val, .string r.cmd.old, .int .i64 r.cmd.rev, .int .i64 r.cmd.ses, .int .i64 r.cmd.seq, .string r.data].toList := by
  obtain ⟨xs, k, rfl, rfl, hl, hx, hf⟩ := DataW.trod_struct Try.underlying25 h
  have hl' : cs.length = 14 := hl.trans (by kernel_rfl)
  have hx' : xs.length = 8 := hx
  match cs, hl' with
  | [c0, c1, c2, c3, c4, c5, c6, c7, c8, c9, c10, c11, c12, c13], _ =>
    obtain ⟨m0, rfl⟩ := int_cell (i := 0) (hf 0 _ rfl) (by omega)
    obtain ⟨m1, rfl⟩ := int_cell (i := 1) (hf 1 _ rfl) (by omega)
    obtain ⟨m2, rfl⟩ := int_cell (i := 2) (hf 2 _ rfl) (by omega)
    obtain ⟨m3, rfl⟩ := int_cell (i := 3) (hf 3 _ rfl) (by omega)
    obtain ⟨m4, rfl⟩ := int_cell (i := 4) (hf 4 _ rfl) (by omega)
    obtain ⟨m5, rfl⟩ := int_cell (i := 5) (hf 5 _ rfl) (by omega)
    have h6 := hf 6 _ rfl
    rw [List.getElem?_eq_getElem (show 6 < xs.length by omega)] at h6
    obtain ⟨c, hc⟩ := cmd_cells h6
    obtain ⟨m7, rfl⟩ := str_cell (i := 7) (hf 7 _ rfl) (by omega)
    have hc' : [c6, c7, c8, c9, c10, c11, c12] = c.cells := hc
    simp only [Cmd.cells, List.cons.injEq, and_true] at hc'
    obtain ⟨rfl, rfl, rfl, rfl, rfl, rfl, rfl⟩ := hc'
    exact ⟨⟨m0, m1, m2, m3, m4, m5, c, m7⟩, rfl⟩
end

end Go.Proofs.Ytcbbnmodjnnbeaa
