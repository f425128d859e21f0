/- Arguments as cells: what a command and a record read as. -/
import Derived.Test.YtcbbnmodjnnbeaaRows
import Derived.Test.YtcbbnmodjnnbeaaPreds
import Derived.ProofKit
import Derived.Test.YtcbbnmodjnnbeaaSameCmd
import Derived.Deep.Slices
import Derived.Test.YtcbbnmodjnnbeaaStW9
import Derived.WalkKit
import Derived.OpenShut
import Derived.JoinedCond
set_option linter.unusedSimpArgs false
set_option linter.unusedVariables false
namespace Go.Proofs.Ytcbbnmodjnnbeaa
open Go.ChangeShapes Go.WideShapes Go.ChangeAt Go.RowKit
open Go.WideMaps Go.WideElems
open Go.ChangeMaps (setBlock shut_map_nil open_string shut_string keptBut_setBlock frozen?_setBlock heap_setBlock_same)

theorem Try.own : ownKnob Try.prog.godebug = none := by kernel_rfl
theorem Try.laidOut : laidOutB Try.prog = true := by kernel_rfl

section
variable {H : Type} {enc : TypeId × Value → H} {w : World} {base : Nat} {spare : Nat → Bool} {held : Bool}
theorem int_cell {n : Nat} {c : Value} {xs : List (DataW H × List MemPlace)} {i : Nat} (h : DataW.trod enc Try.prog w base spare held n 3 [c] = xs[i]?) (hi : i < xs.length) : ∃ m, c = .int .i64 m := by
  rw [List.getElem?_eq_getElem hi] at h
  obtain ⟨m, e, _, _⟩ := DataW.trod_int Try.underlying3 h
  exact ⟨m, by simpa using e⟩
theorem str_cell {n : Nat} {c : Value} {xs : List (DataW H × List MemPlace)} {i : Nat} (h : DataW.trod enc Try.prog w base spare held n 9 [c] = xs[i]?) (hi : i < xs.length) : ∃ s, c = .string s := by
  rw [List.getElem?_eq_getElem hi] at h
  obtain ⟨s, e, _⟩ := DataW.trod_string Try.underlying9 h
  exact ⟨s, by simpa using e⟩
set_option maxRecDepth 100000 in
theorem cmd_cells {n : Nat} {cs : List Value} {x : DataW H × List MemPlace} (h : DataW.trod enc Try.prog w base spare held n 23 cs = some x) : ∃ c : Cmd, cs = c.cells := by
  obtain ⟨xs, k, rfl, rfl, hl, hx, hf⟩ := DataW.trod_struct Try.underlying23 h
  have hl' : cs.length = 7 := hl.trans (by kernel_rfl)
  have hx' : xs.length = 7 := hx
  match cs, hl' with
  | [c0, c1, c2, c3, c4, c5, c6], _ =>
    obtain ⟨m0, rfl⟩ := int_cell (i := 0) (hf 0 _ rfl) (by omega)
    obtain ⟨m1, rfl⟩ := str_cell (i := 1) (hf 1 _ rfl) (by omega)
    obtain ⟨m2, rfl⟩ := str_cell (i := 2) (hf 2 _ rfl) (by omega)
    obtain ⟨m3, rfl⟩ := str_cell (i := 3) (hf 3 _ rfl) (by omega)
    obtain ⟨m4, rfl⟩ := int_cell (i := 4) (hf 4 _ rfl) (by omega)
    obtain ⟨m5, rfl⟩ := int_cell (i := 5) (hf 5 _ rfl) (by omega)
    obtain ⟨m6, rfl⟩ := int_cell (i := 6) (hf 6 _ rfl) (by omega)
    exact ⟨⟨m0, m1, m2, m3, m4, m5, m6⟩, rfl⟩
set_option maxRecDepth 100000 in
theorem rec_cells {n : Nat} {cs : List Value} {x : DataW H × List MemPlace} (h : DataW.trod enc Try.prog w base spare held n 25 cs = some x) : ∃ r : Rec, cs = #[.int .i64 r.kind, .int .i64 r.gen, .int .i64 r.index, .int .i64 r.term, .int .i64 r.vote, .int .i64 r.many, .int .i64 r.cmd.kind, .string r.cmd.key, .string r.cmd.val, .string r.cmd.old, .int .i64 r.cmd.rev, .int .i64 r.cmd.ses, .int .i64 r.cmd.seq, .string r.data].toList := by
  obtain ⟨xs, k, rfl, rfl, hl, hx, hf⟩ := DataW.trod_struct Try.underlying25 h
  have hl' : cs.length = 14 := hl.trans (by kernel_rfl)
  have hx' : xs.length = 8 := hx
  match cs, hl' with
  | [c0, c1, c2, c3, c4, c5, c6, c7, c8, c9, c10, c11, c12, c13], _ =>
    obtain ⟨m0, rfl⟩ := int_cell (i := 0) (hf 0 _ rfl) (by omega)
    obtain ⟨m1, rfl⟩ := int_cell (i := 1) (hf 1 _ rfl) (by omega)
    obtain ⟨m2, rfl⟩ := int_cell (i := 2) (hf 2 _ rfl) (by omega)
    obtain ⟨m3, rfl⟩ := int_cell (i := 3) (hf 3 _ rfl) (by omega)
    obtain ⟨m4, rfl⟩ := int_cell (i := 4) (hf 4 _ rfl) (by omega)
    obtain ⟨m5, rfl⟩ := int_cell (i := 5) (hf 5 _ rfl) (by omega)
    have h6 := hf 6 _ rfl
    rw [List.getElem?_eq_getElem (show 6 < xs.length by omega)] at h6
    obtain ⟨c, hc⟩ := cmd_cells h6
    obtain ⟨m7, rfl⟩ := str_cell (i := 7) (hf 7 _ rfl) (by omega)
    have hc' : [c6, c7, c8, c9, c10, c11, c12] = c.cells := hc
    simp only [Cmd.cells, List.cons.injEq, and_true] at hc'
    obtain ⟨rfl, rfl, rfl, rfl, rfl, rfl, rfl⟩ := hc'
    exact ⟨⟨m0, m1, m2, m3, m4, m5, c, m7⟩, rfl⟩
end

end Go.Proofs.Ytcbbnmodjnnbeaa
/- Arguments: a list of commands, opened. -/
set_option linter.unusedSimpArgs false
set_option linter.unusedVariables false
namespace Go.Proofs.Ytcbbnmodjnnbeaa
open Go.ChangeShapes Go.WideShapes Go.ChangeAt Go.RowKit
open Go.WideMaps Go.WideElems

theorem cellsCmd : Try.prog.cellsOf 23 = 7 := by kernel_rfl
theorem bytesCmd : Try.prog.bytesOf 23 = 80 := by kernel_rfl
instance : Inhabited Cmd := ⟨Cmd.zero⟩
variable {H : Type} {enc : TypeId × Value → H} {W : World} {base : Nat} {spare : Nat → Bool} {held : Bool}
theorem open_cmds {fuel : Nat} {a0 : Option Addr} {len cap : Nat} {d : DataW H} {p : List MemPlace} (h : DataW.trod enc Try.prog W base spare held fuel 59 [.slice a0 len cap] = some (d, p)) :
    ∃ cs : List Cmd, cs.length = len ∧ (cs ≠ [] → W.reads 7 (.slice a0 cs.length cap) (cs.map Cmd.cells)) ∧ (len = 0 ∨ ∃ es sp, d = .slice es sp ∧ es.length = len) := by
  rcases Go.Deep.open_slice Try.underlying59 h with ⟨hcs, hx⟩ | ⟨a, len', cap', m, n, D, Pl, hcs, _, hl, hm, hmm, hx, hel⟩
  · simp only [List.cons.injEq, Value.slice.injEq, and_true] at hcs
    obtain ⟨rfl, rfl, rfl⟩ := hcs
    exact ⟨[], rfl, fun h => absurd rfl h, .inl rfl⟩
  · simp only [List.cons.injEq, Value.slice.injEq, and_true] at hcs
    obtain ⟨rfl, rfl, rfl⟩ := hcs
    simp only [Prod.mk.injEq] at hx
    have hlm : len ≤ m := by rw [hmm]; split <;> omega
    obtain ⟨b, off, spot⟩ := a
    obtain ⟨f, hf⟩ := Go.Deep.choose_lt (α := Cmd) (p := fun i c => W.cells? base ((⟨b, off, spot⟩ : Addr).add (i * 7)) 7 = some c.cells) (n := m) fun i hi => by
      obtain ⟨cs', h1, h2⟩ := hel i hi
      rw [cellsCmd] at h1
      obtain ⟨c, hc⟩ := cmd_cells h2
      exact ⟨c, by rw [← hc]; exact h1⟩
    have hcell : ∀ i, i < len → ∀ j, j < 7 → W.cell? (((⟨b, off, spot⟩ : Addr).add (i * 7)).add j) = (f i).cells[j]? := fun i hi j hj => (World.cells?_some (hf i (by omega))).2.2 j hj
    refine ⟨(List.range len).map f, by simp, fun hne => ?_, .inr ⟨_, _, hx.1, by simp⟩⟩
    have hpos : 0 < len := by
      rcases Nat.eq_zero_or_pos len with h0 | h0
      · subst h0; exact absurd rfl hne
      · exact h0
    have h00 := hcell 0 hpos 0 (by omega)
    have hsome : (f 0).cells[0]? = some (.int .i64 (f 0).kind) := rfl
    rw [hsome] at h00
    have hspot : spot = none := by simpa [Addr.add] using World.cell?_spot h00
    subst hspot
    have hb : b < W.heap.size := by
      rcases Nat.lt_or_ge b W.heap.size with h1 | h1
      · exact h1
      · have : W.heap[b]? = none := Array.getElem?_eq_none h1
        simp [Addr.add, World.cell?, this] at h00
    refine .inr ⟨b, off, cap, by simp, hb, fun i c hi => ?_⟩
    have hil : i < len := by have := (List.getElem?_eq_some_iff.1 hi).1; simpa using this
    have hc : c = (f i).cells := by
      rw [List.getElem?_map, List.getElem?_map, List.getElem?_range hil] at hi
      simpa using hi.symm
    subst hc
    refine ⟨rfl, fun j v hj => ?_⟩
    have hjl : j < 7 := (List.getElem?_eq_some_iff.1 hj).1
    have := hcell i hil j hjl
    rw [hj] at this
    rw [Addr.add_lit, Addr.add_lit] at this
    exact this
end Go.Proofs.Ytcbbnmodjnnbeaa
/- Arguments: a list of asks, opened. -/
set_option linter.unusedSimpArgs false
set_option linter.unusedVariables false
namespace Go.Proofs.Ytcbbnmodjnnbeaa
open Go.ChangeShapes Go.WideShapes Go.ChangeAt Go.RowKit
open Go.WideMaps Go.WideElems

theorem bulk_pos {H : Type} (d : DataW H) : 1 ≤ Rows.uptoBulk d := by
  cases d with
  | lit l => cases l <;> simp [Rows.uptoBulk]
  | _ => simp [Rows.uptoBulk]
theorem bulk_len {H : Type} : ∀ ds : List (DataW H), ds.length ≤ Rows.uptoBulkAll ds
  | [] => Nat.zero_le _
  | d :: r => by
    have h1 := bulk_pos d
    have h2 := bulk_len r
    simp only [Rows.uptoBulkAll, List.length_cons]; omega
theorem bulk_mem {H : Type} : ∀ {ds : List (DataW H)} {d : DataW H}, d ∈ ds → Rows.uptoBulk d ≤ Rows.uptoBulkAll ds
  | [], d, h => by cases h
  | e :: r, d, h => by
    simp only [Rows.uptoBulkAll]
    rcases List.mem_cons.1 h with rfl | h
    · omega
    · have := bulk_mem h; omega
instance : Inhabited AskV := ⟨⟨0, none, 0, [], ⟨#[]⟩, ⟨#[]⟩, 0, 0, ⟨#[]⟩⟩⟩
theorem cellsAsk : Try.prog.cellsOf 61 = 7 := by kernel_rfl
variable {H : Type} {enc : TypeId × Value → H} {W : World} {base : Nat} {spare : Nat → Bool} {held : Bool}
theorem slice_shape {fuel : Nat} {c : Value} {x : DataW H × List MemPlace} (h : DataW.trod enc Try.prog W base spare held fuel 59 [c] = some x) : ∃ a len cap, c = .slice a len cap := by
  rcases Go.Deep.open_slice Try.underlying59 h with ⟨hcs, _⟩ | ⟨a, len, cap, _, _, _, _, hcs, _⟩
  · exact ⟨none, 0, 0, by simpa using hcs⟩
  · exact ⟨some a, len, cap, by simpa using hcs⟩
set_option maxRecDepth 100000 in
theorem ask_opens {n : Nat} {cs : List Value} {x : DataW H × List MemPlace} (h : DataW.trod enc Try.prog W base spare held n 61 cs = some x) (hb : Rows.uptoBulk x.1 ≤ 1048576) : ∃ a : AskV, cs = a.cells ∧ a.ok W := by
  obtain ⟨xs, k, rfl, rfl, hl, hx, hf⟩ := DataW.trod_struct Try.underlying61 h
  have hl' : cs.length = 7 := hl.trans (by kernel_rfl)
  have hx' : xs.length = 7 := hx
  have hpart : ∀ i (hi : i < xs.length), Rows.uptoBulk xs[i].1 ≤ 1048575 := fun i hi => by
    have h1 := bulk_mem (d := xs[i].1) (ds := xs.map (fun x => x.1)) (List.mem_map.2 ⟨xs[i], List.getElem_mem hi, rfl⟩)
    simp only [Rows.uptoBulk] at hb
    omega
  match cs, hl' with
  | [c0, c1, c2, c3, c4, c5, c6], _ =>
    obtain ⟨m0, rfl⟩ := int_cell (i := 0) (hf 0 _ rfl) (by omega)
    have h1 := hf 1 _ rfl
    rw [List.getElem?_eq_getElem (show 1 < xs.length by omega)] at h1
    have h1' : DataW.trod enc Try.prog W base spare held k 59 [c1] = some xs[1] := h1
    obtain ⟨ca, len, cc, rfl⟩ := slice_shape h1'
    have h1b := hpart 1 (by omega)
    have h1s : DataW.trod enc Try.prog W base spare held k 59 [.slice ca len cc] = some (xs[1].1, xs[1].2) := h1'
    obtain ⟨cl, rfl, hr, hd⟩ := open_cmds h1s
    have hlen : cl.length ≤ 1048576 := by
      rcases hd with h0 | ⟨es, sp, he0, he⟩
      · omega
      · have := bulk_len es
        rw [he0] at h1b
        simp only [Rows.uptoBulk] at h1b
        omega
    obtain ⟨m2, rfl⟩ := str_cell (i := 2) (hf 2 _ rfl) (by omega)
    obtain ⟨m3, rfl⟩ := str_cell (i := 3) (hf 3 _ rfl) (by omega)
    obtain ⟨m4, rfl⟩ := int_cell (i := 4) (hf 4 _ rfl) (by omega)
    have h5 := hf 5 _ rfl
    rw [List.getElem?_eq_getElem (show 5 < xs.length by omega)] at h5
    have h5s : DataW.trod enc Try.prog W base spare held k 3 [c5] = some xs[5] := h5
    obtain ⟨m5, e5, _, w5⟩ := DataW.trod_int Try.underlying3 h5s
    have e5' : c5 = .int .i64 m5 := by simpa using e5
    subst e5'
    have h6 := hf 6 _ rfl
    rw [List.getElem?_eq_getElem (show 6 < xs.length by omega)] at h6
    have h6s : DataW.trod enc Try.prog W base spare held k 9 [c6] = some xs[6] := h6
    obtain ⟨m6, e6, f6, w6⟩ := DataW.trod_string Try.underlying9 h6s
    have e6' : c6 = .string m6 := by simpa using e6
    subst e6'
    have h6b := hpart 6 (by omega)
    rw [f6] at h6b
    have hm6 : m6.size ≤ 100000000 := by
      have h := len_data m6
      simp only [Rows.uptoBulk] at h6b
      omega
    have hm5 : m5 < 9223372036854775808 := by
      unfold Lit.wf at w5
      rw [Bool.and_eq_true] at w5
      have h := of_decide_eq_true w5.2
      have e : IntKind.i64.max = 9223372036854775807 := by decide
      rw [e] at h
      omega
    exact ⟨⟨m0, ca, cc, cl, m2, m3, m4, m5, m6⟩, rfl, hr, hlen, hm6, hm5⟩
theorem open_asks {fuel : Nat} {a0 : Option Addr} {len cap : Nat} {d : DataW H} {p : List MemPlace} (h : DataW.trod enc Try.prog W base spare held fuel 50 [.slice a0 len cap] = some (d, p)) (hb : Rows.uptoBulk d ≤ 1048576) :
    ∃ l : List AskV, l.length = len ∧ (l ≠ [] → W.reads 7 (.slice a0 l.length cap) (l.map AskV.cells)) ∧ l.length ≤ 1048576 ∧ ∀ x ∈ l, x.ok W := by
  rcases Go.Deep.open_slice Try.underlying50 h with ⟨hcs, hx⟩ | ⟨a, len', cap', m, n, D, Pl, hcs, _, hl, hm, hmm, hx, hel⟩
  · simp only [List.cons.injEq, Value.slice.injEq, and_true] at hcs
    obtain ⟨rfl, rfl, rfl⟩ := hcs
    exact ⟨[], rfl, fun h => absurd rfl h, by simp, fun x hx => by cases hx⟩
  · simp only [List.cons.injEq, Value.slice.injEq, and_true] at hcs
    obtain ⟨rfl, rfl, rfl⟩ := hcs
    simp only [Prod.mk.injEq] at hx
    have hlm : len ≤ m := by rw [hmm]; split <;> omega
    have hbl : Rows.uptoBulkAll ((List.range len).map D) ≤ 1048575 := by
      have := hx.1
      subst this
      simp only [Rows.uptoBulk] at hb
      omega
    have hlen : len ≤ 1048576 := by
      have := bulk_len ((List.range len).map D)
      simp at this
      omega
    obtain ⟨b, off, spot⟩ := a
    obtain ⟨f, hf⟩ := Go.Deep.choose_lt (α := AskV) (p := fun i c => W.cells? base ((⟨b, off, spot⟩ : Addr).add (i * 7)) 7 = some c.cells ∧ c.ok W) (n := len) fun i hi => by
      obtain ⟨cs', h1, h2⟩ := hel i (by omega)
      rw [cellsAsk] at h1
      obtain ⟨c, hc, hok⟩ := ask_opens h2 (by
        have := bulk_mem (List.mem_map_of_mem (f := D) (List.mem_range.2 hi))
        show Rows.uptoBulk (D i) ≤ _
        omega)
      exact ⟨c, by rw [← hc]; exact h1, hok⟩
    have hcell : ∀ i, i < len → ∀ j, j < 7 → W.cell? (((⟨b, off, spot⟩ : Addr).add (i * 7)).add j) = (f i).cells[j]? := fun i hi j hj => (World.cells?_some (hf i hi).1).2.2 j hj
    refine ⟨(List.range len).map f, by simp, fun hne => ?_, by simpa using hlen, fun x hx => by
      obtain ⟨i, hi, rfl⟩ := List.mem_map.1 hx
      exact (hf i (List.mem_range.1 hi)).2⟩
    have hpos : 0 < len := by
      rcases Nat.eq_zero_or_pos len with h0 | h0
      · subst h0; exact absurd rfl hne
      · exact h0
    have h00 := hcell 0 hpos 0 (by omega)
    have hsome : (f 0).cells[0]? = some (.int .i64 (f 0).kind) := rfl
    rw [hsome] at h00
    have hspot : spot = none := by simpa [Addr.add] using World.cell?_spot h00
    subst hspot
    have hb : b < W.heap.size := by
      rcases Nat.lt_or_ge b W.heap.size with h1 | h1
      · exact h1
      · have : W.heap[b]? = none := Array.getElem?_eq_none h1
        simp [Addr.add, World.cell?, this] at h00
    refine .inr ⟨b, off, cap, by simp, hb, fun i c hi => ?_⟩
    have hil : i < len := by have := (List.getElem?_eq_some_iff.1 hi).1; simpa using this
    have hc : c = (f i).cells := by
      rw [List.getElem?_map, List.getElem?_map, List.getElem?_range hil] at hi
      simpa using hi.symm
    subst hc
    refine ⟨rfl, fun j v hj => ?_⟩
    have hjl : j < 7 := (List.getElem?_eq_some_iff.1 hj).1
    have := hcell i hil j hjl
    rw [hj] at this
    rw [Addr.add_lit, Addr.add_lit] at this
    exact this
end Go.Proofs.Ytcbbnmodjnnbeaa
/- PROVED: whatever two scripts of acts the statement on stores is called with, it answers true, and all read as before. Condition: what it reads is of bulk at most 1048576 (the given second form). -/
set_option linter.unusedSimpArgs false
set_option linter.unusedVariables false
namespace Go.Proofs.Ytcbbnmodjnnbeaa
open Go.ChangeShapes Go.WideShapes Go.ChangeAt Go.RowKit
open Go.ChangeMaps (open_string shut_string)

set_option maxRecDepth 100000 in
theorem storesContract (H : Type) (enc : TypeId × Value → H) (W : World) (base : Nat) (args : Array Value) (ds gs : List (DataW H)) (before : List MemPlace)
    (hval : ∀ (j : Nat) t v, Try.f6.params[j]? = some t → args[j]? = some v → Value.okWide Try.prog W .any base t v)
    (hW : DataW.Whole enc Try.prog Try.f6.params.toList Rows.storesSpec.vars false W args.toList ds gs before) (hk : Rows.uptoSmall H (ds ++ gs) = true) :
    Calls Try.prog 6 args W fun e W' => ∃ v, e = .returned v ∧ Rows.storesSpec.post enc Try.prog Try.f6 false true false false W args v W' := by
  have hW' := hW
  obtain ⟨p, q, hA0, hV, rfl, hfz, hnd⟩ := hW
  have hA : DataW.TrodAll enc Try.prog W 0 (fun _ => true) true Try.f6.params.toList args.toList ds p := hA0
  rw [Try.params6] at hA hval
  obtain ⟨v0, v1, d0, d1, p0, p1, rfl, rfl, rfl, h0, h1⟩ := trodAll_two hA
  obtain ⟨rfl, rfl⟩ := trodVars_none hV
  have h0k := h0
  have h1k := h1
  clear hA0
  simp only [List.append_nil] at hW' hk
  have hbulk : Rows.uptoBulkAll [d0, d1] ≤ 1048576 := of_decide_eq_true hk
  simp only [Rows.uptoBulkAll] at hbulk
  obtain ⟨a0, len, cap, rfl⟩ := okWide_slice Try.underlying50 (hval 0 50 v0 rfl rfl)
  obtain ⟨a1, len1, cap1, rfl⟩ := okWide_slice Try.underlying50 (hval 1 50 v1 rfl rfl)
  obtain ⟨fuel, hf⟩ := h0
  obtain ⟨l1, rfl, hr1, hn1, hk1⟩ := open_asks hf (by omega)
  obtain ⟨fuel1, hf1⟩ := h1
  obtain ⟨l2, rfl, hr2, hn2, hk2⟩ := open_asks hf1 (by omega)
  have hlt : ∀ x ∈ p0 ++ p1 ++ [], x.block < W.heap.size := fun x hx => hW'.lt x (by simpa using hx)
  refine (lawStores W a0 a1 cap cap1 l1 l2 hr1 hr2 hk1 hk2 hn1 hn2).mono fun e W' ⟨he, hb⟩ => ?_
  subst he
  have b0 := Below.trod Try.laidOut (by kernel_rfl) (of_decide_eq_true (by kernel_rfl)) h0k hb (fun x hx => hlt x (by simp [hx]))
  have b1 := Below.trod Try.laidOut (by kernel_rfl) (of_decide_eq_true (by kernel_rfl)) h1k hb (fun x hx => hlt x (by simp [hx]))
  exact ⟨_, rfl, ⟨_, _, _, [], _, [], hW', trodAll_mk1 (shut_bool Try.underlying4 true), trodAll_mk2 b0 b1, rfl, hb.frame _, fun h => by cases h⟩⟩

set_option maxRecDepth 100000 in
theorem storesLifted (os : Os) (started : os.Started) (H : Type) (enc : TypeId × Value → H) (F : Stop.Interp) :
    ReturnsInHanded {} Try.checked os 6 .any ((Rows.OpenSpec.upto Rows.storesSpec).pre6 enc Try.prog Try.f6 Rows.storesUptoRow.domain false) (((Rows.OpenSpec.upto Rows.storesSpec).at F).post enc Try.prog Try.f6 false true false false) := by
  refine returnsInHanded_of_cond (C := Try.checked) (s := Rows.OpenSpec.upto Rows.storesSpec) (k := Rows.uptoSmall) rfl Try.own started (by kernel_rfl) Try.func6
    (OpenSpec.witness (enc := enc) (C := Try.checked) (s := Rows.OpenSpec.upto Rows.storesSpec) (k := Rows.uptoSmall) rfl false ⟨#[], #[.slice none 0 0, .slice none 0 0], []⟩ 8 (by kernel_rfl) (by kernel_rfl) (by kernel_rfl)
      (x := ([.nil, .nil], [], [])) (by kernel_rfl) rfl (by kernel_rfl)) ?_
  intro W base args ds gs before hval hW _ hk _
  exact storesContract H enc W base args ds gs before hval hW hk

theorem stores_upto_holds : Rows.StoresUptoSaid :=
  OpenClaim.holds_of_cond 6 Try.f6 rfl rfl rfl rfl rfl rfl rfl ⟨rfl, rfl, rfl, rfl, rfl⟩ rfl rfl rfl rfl rfl (by kernel_rfl) Try.func6 (by kernel_rfl)
    (of_decide_eq_true (by kernel_rfl)) (by unfold Func.isWrapper; rw [if_neg (of_decide_eq_false (by kernel_rfl))]; exact ⟨rfl, rfl⟩)
    (fun os started H enc _ F => storesLifted os started H enc F)
#print axioms stores_upto_holds
end Go.Proofs.Ytcbbnmodjnnbeaa
