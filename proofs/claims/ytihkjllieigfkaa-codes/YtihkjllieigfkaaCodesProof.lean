/- PROVED: whatever record and whatever text the statement on every Sum, Encode and Decode is called with, it answers true, and both read as before. Conditions: none beside the form's own. -/
import Derived.Test.YtihkjllieigfkaaRows
import Derived.Test.YtihkjllieigfkaaCodes
import Derived.ProofKit
set_option linter.unusedSimpArgs false
set_option linter.unusedVariables false
namespace Go.Proofs.Ytihkjllieigfkaa
open Go.ChangeShapes Go.WideShapes Go.ChangeAt Go.RowKit
open Go.WideMaps Go.WideElems
open Go.ChangeMaps (setBlock shut_map_nil open_string shut_string keptBut_setBlock frozen?_setBlock heap_setBlock_same)

theorem Try.own : ownKnob Try.prog.godebug = none := by kernel_rfl
theorem Try.laidOut : laidOutB Try.prog = true := by kernel_rfl

section
variable {H : Type} {enc : TypeId × Value → H} {w : World} {base : Nat} {spare : Nat → Bool} {held : Bool}
theorem int_cell {n : Nat} {c : Value} {xs : List (DataW H × List MemPlace)} {i : Nat} (h : DataW.trod enc Try.prog w base spare held n 3 [c] = xs[i]?) (hi : i < xs.length) : ∃ m, c = .int .i64 m := by
  rw [List.getElem?_eq_getElem hi] at h
  obtain ⟨m, e, _, _⟩ := DataW.trod_int Try.underlying3 h
  exact ⟨m, by simpa using e⟩
theorem str_cell {n : Nat} {c : Value} {xs : List (DataW H × List MemPlace)} {i : Nat} (h : DataW.trod enc Try.prog w base spare held n 9 [c] = xs[i]?) (hi : i < xs.length) : ∃ s, c = .string s := by
  rw [List.getElem?_eq_getElem hi] at h
  obtain ⟨s, e, _⟩ := DataW.trod_string Try.underlying9 h
  exact ⟨s, by simpa using e⟩
theorem cmd_cells {n : Nat} {cs : List Value} {x : DataW H × List MemPlace} (h : DataW.trod enc Try.prog w base spare held n 23 cs = some x) : ∃ c : Cmd, cs = c.cells := by
  obtain ⟨xs, k, rfl, rfl, hl, hx, hf⟩ := DataW.trod_struct Try.underlying23 h
  have hl' : cs.length = 7 := hl.trans (by kernel_rfl)
  have hx' : xs.length = 7 := hx
  match cs, hl' with
  | [c0, c1, c2, c3, c4, c5, c6], _ =>
    obtain ⟨m0, rfl⟩ := int_cell (i := 0) (hf 0 _ rfl) (by omega)
    obtain ⟨m1, rfl⟩ := str_cell (i := 1) (hf 1 _ rfl) (by omega)
    obtain ⟨m2, rfl⟩ := str_cell (i := 2) (hf 2 _ rfl) (by omega)
    obtain ⟨m3, rfl⟩ := str_cell (i := 3) (hf 3 _ rfl) (by omega)
    obtain ⟨m4, rfl⟩ := int_cell (i := 4) (hf 4 _ rfl) (by omega)
    obtain ⟨m5, rfl⟩ := int_cell (i := 5) (hf 5 _ rfl) (by omega)
    obtain ⟨m6, rfl⟩ := int_cell (i := 6) (hf 6 _ rfl) (by omega)
    exact ⟨⟨m0, m1, m2, m3, m4, m5, m6⟩, rfl⟩
theorem rec_cells {n : Nat} {cs : List Value} {x : DataW H × List MemPlace} (h : DataW.trod enc Try.prog w base spare held n 25 cs = some x) : ∃ r : Rec, cs = #[.int .i64 r.kind, .int .i64 r.gen, .int .i64 r.index, .int .i64 r.term, .int .i64 r.vote, .int .i64 r.many, .int .i64 r.cmd.kind, .string r.cmd.key, .string r.cmd.val, .string r.cmd.old, .int .i64 r.cmd.rev, .int .i64 r.cmd.ses, .int .i64 r.cmd.seq, .string r.data].toList := by
  obtain ⟨xs, k, rfl, rfl, hl, hx, hf⟩ := DataW.trod_struct Try.underlying25 h
  have hl' : cs.length = 14 := hl.trans (by kernel_rfl)
  have hx' : xs.length = 8 := hx
  match cs, hl' with
  | [c0, c1, c2, c3, c4, c5, c6, c7, c8, c9, c10, c11, c12, c13], _ =>
    obtain ⟨m0, rfl⟩ := int_cell (i := 0) (hf 0 _ rfl) (by omega)
    obtain ⟨m1, rfl⟩ := int_cell (i := 1) (hf 1 _ rfl) (by omega)
    obtain ⟨m2, rfl⟩ := int_cell (i := 2) (hf 2 _ rfl) (by omega)
    obtain ⟨m3, rfl⟩ := int_cell (i := 3) (hf 3 _ rfl) (by omega)
    obtain ⟨m4, rfl⟩ := int_cell (i := 4) (hf 4 _ rfl) (by omega)
    obtain ⟨m5, rfl⟩ := int_cell (i := 5) (hf 5 _ rfl) (by omega)
    have h6 := hf 6 _ rfl
    rw [List.getElem?_eq_getElem (show 6 < xs.length by omega)] at h6
    obtain ⟨c, hc⟩ := cmd_cells h6
    obtain ⟨m7, rfl⟩ := str_cell (i := 7) (hf 7 _ rfl) (by omega)
    have hc' : [c6, c7, c8, c9, c10, c11, c12] = c.cells := hc
    simp only [Cmd.cells, List.cons.injEq, and_true] at hc'
    obtain ⟨rfl, rfl, rfl, rfl, rfl, rfl, rfl⟩ := hc'
    exact ⟨⟨m0, m1, m2, m3, m4, m5, c, m7⟩, rfl⟩
end

set_option maxRecDepth 100000 in
theorem codes_lifted (os : Os) (started : os.Started) (H : Type) (enc : TypeId × Value → H) :
    ReturnsInHanded {} Try.checked os 3 .any (Rows.codesSpec.pre6 enc Try.prog Try.f3 Rows.codesRow.domain false) (Rows.codesSpec.post enc Try.prog Try.f3 false true false false) := by
  refine returnsInHanded_of_change_sized (C := Try.checked) Try.own started (by kernel_rfl) Try.func3
    (ChangeSpec.witness6 (enc := enc) (C := Try.checked) false ⟨#[], #[.agg #[.int .i64 0, .int .i64 0, .int .i64 0, .int .i64 0, .int .i64 0, .int .i64 0, .int .i64 0, .string ⟨#[]⟩, .string ⟨#[]⟩, .string ⟨#[]⟩, .int .i64 0, .int .i64 0, .int .i64 0, .string ⟨#[]⟩], .string ⟨#[]⟩], []⟩ 8 (by kernel_rfl) (by kernel_rfl) (by kernel_rfl) (by kernel_rfl)) ?_
  intro W base args ds gs before hval0 hW _ hsz0 _
  have hsz : (DataW.weightsEach Try.prog (Try.f3.params.toList ++ Rows.codesSpec.plain.varTypes Try.prog) (ds ++ gs)).all (· ≤ reachBytes) = true := hsz0
  clear hsz0
  have hval : ∀ (j : Nat) t v, Try.f3.params[j]? = some t → args[j]? = some v → Value.okWide Try.prog W .any base t v := hval0
  have hW' := hW
  obtain ⟨p, q, hA0, hV, rfl, _, _⟩ := hW
  have hA : DataW.TrodAll enc Try.prog W 0 (fun _ => true) true Try.f3.params.toList args.toList ds p := hA0
  rw [Try.params3] at hA hval hsz
  obtain ⟨v0, v1, d0, d1, p0, p1, rfl, rfl, rfl, h0, h1⟩ := trodAll_two hA
  obtain ⟨rfl, rfl⟩ := trodVars_none hV
  have h0k := h0
  have h1k := h1
  clear hA0 hval0
  simp only [List.append_nil] at hW'
  obtain ⟨cs, rfl, hcs⟩ := okWide_struct Try.underlying25 (hval 0 25 v0 rfl rfl)
  obtain ⟨fuel, hf⟩ := h0
  obtain ⟨r, hr⟩ := rec_cells hf
  have hr' : cs = #[.int .i64 r.kind, .int .i64 r.gen, .int .i64 r.index, .int .i64 r.term, .int .i64 r.vote, .int .i64 r.many, .int .i64 r.cmd.kind, .string r.cmd.key, .string r.cmd.val, .string r.cmd.old, .int .i64 r.cmd.rev, .int .i64 r.cmd.ses, .int .i64 r.cmd.seq, .string r.data] := by
    have h2 : cs.toList = #[.int .i64 r.kind, .int .i64 r.gen, .int .i64 r.index, .int .i64 r.term, .int .i64 r.vote, .int .i64 r.many, .int .i64 r.cmd.kind, .string r.cmd.key, .string r.cmd.val, .string r.cmd.old, .int .i64 r.cmd.rev, .int .i64 r.cmd.ses, .int .i64 r.cmd.seq, .string r.data].toList := hr
    exact Array.toList_inj.1 h2
  subst hr'
  obtain ⟨s, rfl, rfl, rfl, hs⟩ := open_string Try.underlying9 (hval 1 9 v1 rfl rfl) h1
  have hreach := sized_string hsz (j := 1) (t := 9) rfl rfl
  have hs47 : s.size ≤ 281474976710656 := by
    rw [len_data] at hreach
    unfold reachBytes at hreach
    omega
  have hlt : ∀ x ∈ p0 ++ [], x.block < W.heap.size := fun x hx => by simpa using hW'.lt x hx
  refine (codes_any r s W hs47).mono fun e W' ⟨he, hb⟩ => ?_
  subst he
  have a0 := Below.trod Try.laidOut (by kernel_rfl) (of_decide_eq_true (by kernel_rfl)) h0k hb (fun x hx => hlt x (by simpa using hx))
  have a1 := Below.trod Try.laidOut (by kernel_rfl) (of_decide_eq_true (by kernel_rfl)) h1k hb (fun x hx => by cases hx)
  exact ⟨_, rfl, ⟨_, _, _, [], _, [], hW', trodAll_mk1 (shut_bool Try.underlying4 true), trodAll_mk2 a0 a1, rfl, hb.frame _, fun h => by cases h⟩⟩

theorem codes_holds : Rows.CodesSaid :=
  OpenClaim.holds_of_wide 3 Try.f3 rfl rfl rfl rfl rfl rfl rfl ⟨rfl, rfl, rfl, rfl, rfl⟩ rfl rfl rfl rfl rfl (by kernel_rfl) Try.func3 (by kernel_rfl)
    (of_decide_eq_true (by kernel_rfl)) (by unfold Func.isWrapper; rw [if_neg (of_decide_eq_false (by kernel_rfl))]; exact ⟨rfl, rfl⟩)
    (fun os started H enc _ => codes_lifted os started H enc)
end Go.Proofs.Ytihkjllieigfkaa
