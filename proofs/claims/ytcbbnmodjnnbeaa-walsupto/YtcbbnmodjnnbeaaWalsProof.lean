/- Arguments: a list of deeds, opened. -/
import Derived.Test.YtcbbnmodjnnbeaaCells
import Derived.Test.YtcbbnmodjnnbeaaWalsW
import Derived.Deep.Slices
import Derived.Test.YtcbbnmodjnnbeaaRows
import Derived.WalkKit
import Derived.ProofKit
import Derived.OpenShut
import Derived.JoinedCond
set_option linter.unusedSimpArgs false
set_option linter.unusedVariables false
namespace Go.Proofs.Ytcbbnmodjnnbeaa
open Go.ChangeShapes Go.WideShapes Go.ChangeAt Go.RowKit
open Go.WideMaps Go.WideElems

theorem bulkB_pos {H : Type} (d : DataW H) : 1 ≤ Rows.uptoBulk d := by
  cases d with
  | lit l => cases l <;> simp [Rows.uptoBulk]
  | _ => simp [Rows.uptoBulk]
theorem bulkB_len {H : Type} : ∀ ds : List (DataW H), ds.length ≤ Rows.uptoBulkAll ds
  | [] => Nat.zero_le _
  | d :: r => by
    have h1 := bulkB_pos d
    have h2 := bulkB_len r
    simp only [Rows.uptoBulkAll, List.length_cons]; omega
theorem bulkB_mem {H : Type} : ∀ {ds : List (DataW H)} {d : DataW H}, d ∈ ds → Rows.uptoBulk d ≤ Rows.uptoBulkAll ds
  | [], d, h => by cases h
  | e :: r, d, h => by
    simp only [Rows.uptoBulkAll]
    rcases List.mem_cons.1 h with rfl | h
    · omega
    · have := bulkB_mem h; omega
theorem bulkB_sum {H : Type} (ds : List (DataW H)) : Rows.uptoBulkAll ds = (ds.map Rows.uptoBulk).sum := by
  induction ds with
  | nil => rfl
  | cons d r ih => simp only [Rows.uptoBulkAll, ih, List.map_cons, List.sum_cons]
theorem oneL_le (r : Rec) : (oneL r).length ≤ 30 + r.data.size + r.cmd.key.size + r.cmd.val.size + r.cmd.old.size := by
  have h1 := len_data r.data
  have h2 := len_data r.cmd.key
  have h3 := len_data r.cmd.val
  have h4 := len_data r.cmd.old
  simp only [oneL, encL, List.length_append, be_length]
  unfold bodyL cmdL
  split
  · simp only [List.length_append, be_length]; omega
  · split
    · simp only [List.length_append, be_length]; omega
    · simp only [List.length_append, be_length]; omega
section
variable {H : Type} {enc : TypeId × Value → H} {W : World} {base : Nat} {spare : Nat → Bool} {held : Bool}
theorem strB {n : Nat} {c : Value} {x : DataW H × List MemPlace} (h : DataW.trod enc Try.prog W base spare held n 9 [c] = some x) : ∃ s, c = .string s ∧ s.size + 1 ≤ Rows.uptoBulk x.1 := by
  obtain ⟨s, e, f, _⟩ := DataW.trod_string Try.underlying9 h
  refine ⟨s, by simpa using e, ?_⟩
  rw [f]
  have := len_data s
  simp only [Rows.uptoBulk]
  omega
theorem intB {n : Nat} {c : Value} {x : DataW H × List MemPlace} (h : DataW.trod enc Try.prog W base spare held n 3 [c] = some x) : ∃ m, c = .int .i64 m ∧ -9223372036854775808 ≤ m ∧ m < 9223372036854775808 := by
  obtain ⟨m, e, _, w⟩ := DataW.trod_int Try.underlying3 h
  refine ⟨m, by simpa using e, ?_⟩
  unfold Lit.wf at w
  rw [Bool.and_eq_true] at w
  have h1 := of_decide_eq_true w.1
  have h2 := of_decide_eq_true w.2
  have e1 : IntKind.i64.max = 9223372036854775807 := by decide
  have e2 : IntKind.i64.min = -9223372036854775808 := by decide
  rw [e1] at h2
  rw [e2] at h1
  omega
set_option maxRecDepth 100000 in
theorem cmdB {n : Nat} {cs : List Value} {x : DataW H × List MemPlace} (h : DataW.trod enc Try.prog W base spare held n 23 cs = some x) : ∃ c : Cmd, cs = c.cells ∧ c.key.size + c.val.size + c.old.size + 8 ≤ Rows.uptoBulk x.1 := by
  obtain ⟨xs, k, rfl, rfl, hl, hx, hf⟩ := DataW.trod_struct Try.underlying23 h
  have hl' : cs.length = 7 := hl.trans (by kernel_rfl)
  have hx' : xs.length = 7 := hx
  match cs, hl' with
  | [c0, c1, c2, c3, c4, c5, c6], _ =>
    match xs, hx' with
    | [y0, y1, y2, y3, y4, y5, y6], _ =>
      obtain ⟨m0, rfl, _⟩ := intB (x := y0) (hf 0 _ rfl)
      obtain ⟨m1, rfl, b1⟩ := strB (x := y1) (hf 1 _ rfl)
      obtain ⟨m2, rfl, b2⟩ := strB (x := y2) (hf 2 _ rfl)
      obtain ⟨m3, rfl, b3⟩ := strB (x := y3) (hf 3 _ rfl)
      obtain ⟨m4, rfl, _⟩ := intB (x := y4) (hf 4 _ rfl)
      obtain ⟨m5, rfl, _⟩ := intB (x := y5) (hf 5 _ rfl)
      obtain ⟨m6, rfl, _⟩ := intB (x := y6) (hf 6 _ rfl)
      refine ⟨⟨m0, m1, m2, m3, m4, m5, m6⟩, rfl, ?_⟩
      have p0 := bulkB_pos y0.1
      have p4 := bulkB_pos y4.1
      have p5 := bulkB_pos y5.1
      have p6 := bulkB_pos y6.1
      simp only [List.map_cons, List.map_nil, Rows.uptoBulk, Rows.uptoBulkAll]
      omega
set_option maxRecDepth 100000 in
theorem recB {n : Nat} {cs : List Value} {x : DataW H × List MemPlace} (h : DataW.trod enc Try.prog W base spare held n 25 cs = some x) : ∃ r : Rec, cs = r.cells ∧ (oneL r).length ≤ 4 * Rows.uptoBulk x.1 := by
  obtain ⟨xs, k, rfl, rfl, hl, hx, hf⟩ := DataW.trod_struct Try.underlying25 h
  have hl' : cs.length = 14 := hl.trans (by kernel_rfl)
  have hx' : xs.length = 8 := hx
  match cs, hl' with
  | [c0, c1, c2, c3, c4, c5, c6, c7, c8, c9, c10, c11, c12, c13], _ =>
    match xs, hx' with
    | [y0, y1, y2, y3, y4, y5, y6, y7], _ =>
      obtain ⟨m0, rfl, _⟩ := intB (x := y0) (hf 0 _ rfl)
      obtain ⟨m1, rfl, _⟩ := intB (x := y1) (hf 1 _ rfl)
      obtain ⟨m2, rfl, _⟩ := intB (x := y2) (hf 2 _ rfl)
      obtain ⟨m3, rfl, _⟩ := intB (x := y3) (hf 3 _ rfl)
      obtain ⟨m4, rfl, _⟩ := intB (x := y4) (hf 4 _ rfl)
      obtain ⟨m5, rfl, _⟩ := intB (x := y5) (hf 5 _ rfl)
      obtain ⟨c, hc, bc⟩ := cmdB (x := y6) (hf 6 _ rfl)
      obtain ⟨m7, rfl, b7⟩ := strB (x := y7) (hf 7 _ rfl)
      have hc' : [c6, c7, c8, c9, c10, c11, c12] = c.cells := hc
      simp only [Cmd.cells, List.cons.injEq, and_true] at hc'
      obtain ⟨rfl, rfl, rfl, rfl, rfl, rfl, rfl⟩ := hc'
      refine ⟨⟨m0, m1, m2, m3, m4, m5, c, m7⟩, rfl, ?_⟩
      have h1 := oneL_le ⟨m0, m1, m2, m3, m4, m5, c, m7⟩
      simp only [List.map_cons, List.map_nil, Rows.uptoBulk, Rows.uptoBulkAll]
      dsimp only at h1
      omega
set_option maxRecDepth 100000 in
theorem etyB {n : Nat} {cs : List Value} {x : DataW H × List MemPlace} (h : DataW.trod enc Try.prog W base spare held n 135 cs = some x) : ∃ e : Ety, cs = e.cells ∧ ∀ i, (oneL (itemR i e)).length ≤ 4 * Rows.uptoBulk x.1 := by
  obtain ⟨xs, k, rfl, rfl, hl, hx, hf⟩ := DataW.trod_struct Try.underlying135 h
  have hl' : cs.length = 8 := hl.trans (by kernel_rfl)
  have hx' : xs.length = 2 := hx
  match cs, hl' with
  | [c0, c1, c2, c3, c4, c5, c6, c7], _ =>
    match xs, hx' with
    | [y0, y1], _ =>
      obtain ⟨m0, rfl, _⟩ := intB (x := y0) (hf 0 _ rfl)
      obtain ⟨c, hc, bc⟩ := cmdB (x := y1) (hf 1 _ rfl)
      have hc' : [c1, c2, c3, c4, c5, c6, c7] = c.cells := hc
      simp only [Cmd.cells, List.cons.injEq, and_true] at hc'
      obtain ⟨rfl, rfl, rfl, rfl, rfl, rfl, rfl⟩ := hc'
      refine ⟨⟨m0, c⟩, rfl, fun i => ?_⟩
      have h1 := oneL_le (itemR i ⟨m0, c⟩)
      have h2 : (itemR i ⟨m0, c⟩).data.size = 0 := rfl
      simp only [List.map_cons, List.map_nil, Rows.uptoBulk, Rows.uptoBulkAll]
      rw [h2] at h1
      dsimp only [itemR] at h1 ⊢
      omega
/-- A list, its elements opened one by one. -/
theorem open_rows {α : Type} [Inhabited α] {sl T : TypeId} {sz : Nat} (hu : Try.prog.underlying sl = some (.slice T)) (hz : Try.prog.cellsOf T = sz) (hpos : 0 < sz) (cells : α → List Value) (hlen : ∀ x, (cells x).length = sz) (P : α → DataW H → Prop)
    (hop : ∀ {n : Nat} {cs : List Value} {x : DataW H × List MemPlace}, DataW.trod enc Try.prog W base spare held n T cs = some x → Rows.uptoBulk x.1 ≤ 1048576 → ∃ a, cs = cells a ∧ P a x.1)
    {fuel : Nat} {a0 : Option Addr} {len cap : Nat} {d : DataW H} {p : List MemPlace} (h : DataW.trod enc Try.prog W base spare held fuel sl [.slice a0 len cap] = some (d, p)) (hb : Rows.uptoBulk d ≤ 1048576) :
    ∃ l : List (α × Nat), l.length = len ∧ (l ≠ [] → W.reads sz (.slice a0 l.length cap) (l.map fun x => cells x.1)) ∧ l.length ≤ 1048576 ∧ (l.map fun x => x.2).sum ≤ Rows.uptoBulk d ∧ ∀ x ∈ l, ∃ D, P x.1 D ∧ x.2 = Rows.uptoBulk D ∧ Rows.uptoBulk D ≤ 1048576 := by
  rcases Go.Deep.open_slice hu h with ⟨hcs, hx⟩ | ⟨a, len', cap', m, n, D, Pl, hcs, _, hl, hm, hmm, hx, hel⟩
  · simp only [List.cons.injEq, Value.slice.injEq, and_true] at hcs
    obtain ⟨rfl, rfl, rfl⟩ := hcs
    exact ⟨[], rfl, fun h => absurd rfl h, by simp, by simp, fun x hx => by cases hx⟩
  · simp only [List.cons.injEq, Value.slice.injEq, and_true] at hcs
    obtain ⟨rfl, rfl, rfl⟩ := hcs
    simp only [Prod.mk.injEq] at hx
    have hlm : len ≤ m := by rw [hmm]; split <;> omega
    have hbl : Rows.uptoBulkAll ((List.range len).map D) + 1 ≤ Rows.uptoBulk d := by
      have := hx.1
      subst this
      simp only [Rows.uptoBulk]
      omega
    have hlen' : len ≤ 1048576 := by
      have := bulkB_len ((List.range len).map D)
      simp at this
      omega
    obtain ⟨b, off, spot⟩ := a
    have hDb : ∀ i, i < len → Rows.uptoBulk (D i) ≤ 1048576 := fun i hi => by
      have := bulkB_mem (List.mem_map_of_mem (f := D) (List.mem_range.2 hi))
      omega
    obtain ⟨f, hf⟩ := Go.Deep.choose_lt (α := α) (p := fun i c => W.cells? base ((⟨b, off, spot⟩ : Addr).add (i * sz)) sz = some (cells c) ∧ P c (D i)) (n := len) fun i hi => by
      obtain ⟨cs', h1, h2⟩ := hel i (by omega)
      rw [hz] at h1
      obtain ⟨c, hc, hok⟩ := hop h2 (hDb i hi)
      exact ⟨c, by rw [← hc]; exact h1, hok⟩
    have hcell : ∀ i, i < len → ∀ j, j < sz → W.cell? (((⟨b, off, spot⟩ : Addr).add (i * sz)).add j) = (cells (f i))[j]? := fun i hi j hj => (World.cells?_some (hf i hi).1).2.2 j hj
    refine ⟨(List.range len).map fun i => (f i, Rows.uptoBulk (D i)), by simp, fun hne => ?_, by simpa using hlen', ?_, fun x hx => by
      obtain ⟨i, hi, rfl⟩ := List.mem_map.1 hx
      exact ⟨D i, (hf i (List.mem_range.1 hi)).2, rfl, hDb i (List.mem_range.1 hi)⟩⟩
    · have hpos' : 0 < len := by
        rcases Nat.eq_zero_or_pos len with h0 | h0
        · subst h0; exact absurd rfl hne
        · exact h0
      have h00 := hcell 0 hpos' 0 hpos
      obtain ⟨v0, hv0⟩ : ∃ v, (cells (f 0))[0]? = some v := ⟨_, List.getElem?_eq_getElem (by rw [hlen]; exact hpos)⟩
      rw [hv0] at h00
      have hspot : spot = none := by simpa [Addr.add] using World.cell?_spot h00
      subst hspot
      have hb : b < W.heap.size := by
        rcases Nat.lt_or_ge b W.heap.size with h1 | h1
        · exact h1
        · have : W.heap[b]? = none := Array.getElem?_eq_none h1
          simp [Addr.add, World.cell?, this] at h00
      refine .inr ⟨b, off, cap, by simp, hb, fun i c hi => ?_⟩
      have hil : i < len := by have := (List.getElem?_eq_some_iff.1 hi).1; simpa using this
      have hc : c = cells (f i) := by
        rw [List.getElem?_map, List.getElem?_map, List.getElem?_range hil] at hi
        simpa using hi.symm
      subst hc
      refine ⟨hlen _, fun j v hj => ?_⟩
      have hjl : j < sz := by have := (List.getElem?_eq_some_iff.1 hj).1; rw [hlen] at this; exact this
      have := hcell i hil j hjl
      rw [hj] at this
      rw [Addr.add_lit, Addr.add_lit] at this
      exact this
    · rw [List.map_map]
      have e : ((fun x : α × Nat => x.2) ∘ fun i => (f i, Rows.uptoBulk (D i))) = fun i => Rows.uptoBulk (D i) := rfl
      rw [e]
      rw [bulkB_sum, List.map_map] at hbl
      have e2 : (Rows.uptoBulk ∘ D) = fun i => Rows.uptoBulk (D i) := rfl
      rw [e2] at hbl
      omega
instance : Inhabited Rec := ⟨Rec.zero⟩
instance : Inhabited Ety := ⟨⟨0, Cmd.zero⟩⟩
instance : Inhabited DeedV := ⟨DeedV.of 0 0⟩
theorem sliceB {sl T : TypeId} (hu : Try.prog.underlying sl = some (.slice T)) {fuel : Nat} {c : Value} {x : DataW H × List MemPlace} (h : DataW.trod enc Try.prog W base spare held fuel sl [c] = some x) : ∃ a len cap, c = .slice a len cap := by
  rcases Go.Deep.open_slice hu h with ⟨hcs, _⟩ | ⟨a, len, cap, _, _, _, _, hcs, _⟩
  · exact ⟨none, 0, 0, by simpa using hcs⟩
  · exact ⟨some a, len, cap, by simpa using hcs⟩
theorem cellsRecB : Try.prog.cellsOf 25 = 14 := by kernel_rfl
theorem cellsEtyB : Try.prog.cellsOf 135 = 8 := by kernel_rfl
theorem cellsDeedB : Try.prog.cellsOf 92 = 11 := by kernel_rfl
theorem jrnL_sum (l : List (Rec × Nat)) (h : ∀ x ∈ l, (oneL x.1).length ≤ 4 * x.2) : (jrnL (l.map fun x => x.1)).length ≤ 4 * (l.map fun x => x.2).sum := by
  induction l with
  | nil => simp [jrnL]
  | cons x r ih =>
    have h1 := ih fun y hy => h y (by simp [hy])
    have h2 := h x (by simp)
    simp only [List.map_cons, jrnL_cons, List.length_append, List.sum_cons]
    omega
theorem items_sum (l : List (Ety × Nat)) (h : ∀ x ∈ l, ∀ i, (oneL (itemR i x.1)).length ≤ 4 * x.2) : ∀ b, (jrnL (itemsR b (l.map fun x => x.1))).length ≤ 4 * (l.map fun x => x.2).sum := by
  induction l with
  | nil => intro b; simp [jrnL, itemsR]
  | cons x r ih =>
    intro b
    have h1 := ih (fun y hy => h y (by simp [hy])) (b + 1)
    have h2 := h x (by simp) (b + 1)
    simp only [List.map_cons, itemsR, jrnL_cons, List.length_append, List.sum_cons]
    omega
end
section
variable {H : Type} {enc : TypeId × Value → H} {W : World} {base : Nat} {spare : Nat → Bool} {held : Bool}
set_option maxRecDepth 100000 in
theorem deedB {n : Nat} {cs : List Value} {x : DataW H × List MemPlace} (h : DataW.trod enc Try.prog W base spare held n 92 cs = some x) (hb : Rows.uptoBulk x.1 ≤ 1048576) : ∃ v : DeedV, cs = v.cells ∧ v.ok W (8 * Rows.uptoBulk x.1) := by
  obtain ⟨xs, k, rfl, rfl, hl, hx, hf⟩ := DataW.trod_struct Try.underlying92 h
  have hl' : cs.length = 11 := hl.trans (by kernel_rfl)
  have hx' : xs.length = 5 := hx
  match cs, hl' with
  | [c0, c1, c2, c3, c4, c5, c6, c7, c8, c9, c10], _ =>
    match xs, hx' with
    | [y0, y1, y2, y3, y4], _ =>
      obtain ⟨m0, rfl, _⟩ := intB (x := y0) (hf 0 _ rfl)
      obtain ⟨m1, rfl, hk1⟩ := intB (x := y1) (hf 1 _ rfl)
      obtain ⟨m2, rfl, hk2⟩ := intB (x := y2) (hf 2 _ rfl)
      have h3 : DataW.trod enc Try.prog W base spare held k 33 [c3] = some y3 := hf 3 _ rfl
      obtain ⟨ra, rl, rc, rfl⟩ := sliceB Try.underlying33 h3
      have h4 : DataW.trod enc Try.prog W base spare held k 90 [c4, c5, c6, c7, c8, c9, c10] = some y4 := hf 4 _ rfl
      simp only [List.map_cons, List.map_nil, Rows.uptoBulk, Rows.uptoBulkAll] at hb ⊢
      have p0 := bulkB_pos y0.1
      have p1 := bulkB_pos y1.1
      have p2 := bulkB_pos y2.1
      have h3' : DataW.trod enc Try.prog W base spare held k 33 [.slice ra rl rc] = some (y3.1, y3.2) := h3
      obtain ⟨lr, rfl, hrr, hrl, hrs, hrp⟩ := open_rows Try.underlying33 cellsRecB (by omega) Rec.cells (fun _ => rfl) (fun r D => (oneL r).length ≤ 4 * Rows.uptoBulk D) (fun h _ => recB h) h3' (by omega)
      have hj := jrnL_sum lr fun z hz => by obtain ⟨D, a, b, _⟩ := hrp z hz; rw [b]; exact a
      obtain ⟨zs, k', e4, rfl, hl4, hx4, hf4⟩ := DataW.trod_struct Try.underlying90 h4
      have hx4' : zs.length = 7 := hx4
      match zs, hx4' with
      | [z0, z1, z2, z3, z4, z5, z6], _ =>
        obtain ⟨s0, rfl, _⟩ := intB (x := z0) (hf4 0 _ rfl)
        obtain ⟨s1, rfl, _⟩ := intB (x := z1) (hf4 1 _ rfl)
        obtain ⟨s2, rfl, _⟩ := intB (x := z2) (hf4 2 _ rfl)
        obtain ⟨s3, rfl, _⟩ := intB (x := z3) (hf4 3 _ rfl)
        obtain ⟨s4, rfl, _⟩ := intB (x := z4) (hf4 4 _ rfl)
        obtain ⟨s5, rfl, b5⟩ := strB (x := z5) (hf4 5 _ rfl)
        have h6 : DataW.trod enc Try.prog W base spare held k' 88 [c10] = some z6 := hf4 6 _ rfl
        obtain ⟨la, ll, lc, rfl⟩ := sliceB Try.underlying88 h6
        have h6' : DataW.trod enc Try.prog W base spare held k' 88 [.slice la ll lc] = some (z6.1, z6.2) := h6
        simp only [List.map_cons, List.map_nil, Rows.uptoBulk, Rows.uptoBulkAll] at hb ⊢
        have q0 := bulkB_pos z0.1
        have q1 := bulkB_pos z1.1
        have q2 := bulkB_pos z2.1
        have q3 := bulkB_pos z3.1
        have q4 := bulkB_pos z4.1
        obtain ⟨le, rfl, her, hel, hes, hep⟩ := open_rows Try.underlying88 cellsEtyB (by omega) Ety.cells (fun _ => rfl) (fun e D => ∀ i, (oneL (itemR i e)).length ≤ 4 * Rows.uptoBulk D) (fun h _ => etyB h) h6' (by omega)
        have hi := items_sum le fun z hz => by obtain ⟨D, a, b, _⟩ := hep z hz; rw [b]; exact a
        have elr : (lr.map fun x => x.1).length = lr.length := List.length_map _
        have ele : (le.map fun x => x.1).length = le.length := List.length_map _
        refine ⟨⟨m0, m1, m2, ra, rc, lr.map fun x => x.1, ⟨s0, s1, s2, s3, s4, s5, le.map fun x => x.1⟩, la, lc⟩, ?_, ⟨?_, ?_, ?_, ?_, ?_, ?_, hk1, hk2⟩⟩
        · simp only [DeedV.cells, elr, ele]
        · intro hne
          have h := hrr (fun e => hne (by rw [e]; rfl))
          simp only [elr, List.map_map]
          exact h
        · simp only [elr]; exact hrl
        · simp only; omega
        · intro hne
          have h := her (fun e => hne (by simp only [e]; rfl))
          simp only [ele, List.map_map]
          exact h
        · simp only [ele]; exact hel
        · intro g
          have o1 := oneL_le (WSt.baseR ⟨g, s1, s2, s3, s4, s5, le.map fun x => x.1⟩)
          have o2 := oneL_le (WSt.hardR ⟨g, s1, s2, s3, s4, s5, le.map fun x => x.1⟩)
          have o3 := hi s3
          have z1' : (WSt.baseR ⟨g, s1, s2, s3, s4, s5, le.map fun x => x.1⟩).data.size = s5.size := rfl
          have z2' : (WSt.baseR ⟨g, s1, s2, s3, s4, s5, le.map fun x => x.1⟩).cmd = Cmd.zero := rfl
          have z3' : (WSt.hardR ⟨g, s1, s2, s3, s4, s5, le.map fun x => x.1⟩).data.size = 0 := rfl
          have z4' : (WSt.hardR ⟨g, s1, s2, s3, s4, s5, le.map fun x => x.1⟩).cmd = Cmd.zero := rfl
          have z5' : Cmd.zero.key.size = 0 ∧ Cmd.zero.val.size = 0 ∧ Cmd.zero.old.size = 0 := ⟨rfl, rfl, rfl⟩
          rw [z1', z2'] at o1
          rw [z3', z4'] at o2
          simp only [WSt.recs, jrnL_cons, List.length_append]
          omega
theorem open_deeds {fuel : Nat} {a0 : Option Addr} {len cap : Nat} {d : DataW H} {p : List MemPlace} (h : DataW.trod enc Try.prog W base spare held fuel 84 [.slice a0 len cap] = some (d, p)) (hb : Rows.uptoBulk d ≤ 1048576) :
    ∃ l : List (DeedV × Nat), l.length = len ∧ (l ≠ [] → W.reads 11 (.slice a0 l.length cap) (l.map fun x => x.1.cells)) ∧ l.length ≤ 1048576 ∧ sumB l ≤ 90000000 ∧ ∀ x ∈ l, x.1.ok W x.2 := by
  obtain ⟨l, h1, h2, h3, h4, h5⟩ := open_rows Try.underlying84 cellsDeedB (by omega) DeedV.cells (fun _ => rfl) (fun x D => x.ok W (8 * Rows.uptoBulk D)) (fun h hb => deedB h hb) h hb
  have hl : (l.map fun x => (x.1, 8 * x.2)).length = l.length := List.length_map _
  refine ⟨l.map fun x => (x.1, 8 * x.2), by rw [hl]; exact h1, fun hne => ?_, by rw [hl]; exact h3, ?_, fun x hx => ?_⟩
  · rw [hl, List.map_map]
    exact h2 (fun e => hne (by rw [e]; rfl))
  · unfold sumB
    rw [List.map_map]
    have e : ∀ l : List (DeedV × Nat), (l.map ((fun x : DeedV × Nat => x.2) ∘ fun x => (x.1, 8 * x.2))).sum = 8 * (l.map fun x => x.2).sum := by
      intro l
      induction l with
      | nil => rfl
      | cons y r ih => simp only [List.map_cons, List.sum_cons, ih, Function.comp]; omega
    rw [e]
    omega
  · obtain ⟨y, hy, rfl⟩ := List.mem_map.1 hx
    obtain ⟨D, a, b, _⟩ := h5 y hy
    simp only
    rw [b]; exact a
end
end Go.Proofs.Ytcbbnmodjnnbeaa
/- PROVED: whatever script of deeds the statement on disks and journals is called with, it answers true, and all reads as before. Condition: what it reads is of bulk at most 1048576 (the given second form). -/
set_option linter.unusedSimpArgs false
set_option linter.unusedVariables false
namespace Go.Proofs.Ytcbbnmodjnnbeaa
open Go.ChangeShapes Go.WideShapes Go.ChangeAt Go.RowKit
open Go.ChangeMaps (open_string shut_string)

set_option maxRecDepth 100000 in
theorem walsContract (H : Type) (enc : TypeId × Value → H) (W : World) (base : Nat) (args : Array Value) (ds gs : List (DataW H)) (before : List MemPlace)
    (hval : ∀ (j : Nat) t v, Try.f10.params[j]? = some t → args[j]? = some v → Value.okWide Try.prog W .any base t v)
    (hW : DataW.Whole enc Try.prog Try.f10.params.toList Rows.walsSpec.vars false W args.toList ds gs before) (hk : Rows.uptoSmall H (ds ++ gs) = true) :
    Calls Try.prog 10 args W fun e W' => ∃ v, e = .returned v ∧ Rows.walsSpec.post enc Try.prog Try.f10 false true false false W args v W' := by
  have hW' := hW
  obtain ⟨p, q, hA0, hV, rfl, hfz, hnd⟩ := hW
  have hA : DataW.TrodAll enc Try.prog W 0 (fun _ => true) true Try.f10.params.toList args.toList ds p := hA0
  rw [Try.params10] at hA hval
  obtain ⟨v0, d0, rfl, rfl, h0⟩ := trodAll_one hA
  obtain ⟨rfl, rfl⟩ := trodVars_none hV
  have h0k := h0
  clear hA0
  simp only [List.append_nil] at hW' hk
  have hbulk : Rows.uptoBulkAll [d0] ≤ 1048576 := of_decide_eq_true hk
  simp only [Rows.uptoBulkAll] at hbulk
  obtain ⟨a0, len, cap, rfl⟩ := okWide_slice Try.underlying84 (hval 0 84 v0 rfl rfl)
  obtain ⟨fuel, hf⟩ := h0
  obtain ⟨l, rfl, hr, hn, hs, hok⟩ := open_deeds hf (by omega)
  have hlt : ∀ x ∈ p ++ [], x.block < W.heap.size := fun x hx => hW'.lt x (by simpa using hx)
  refine (lawWals W a0 cap l hr hok hn hs).mono fun e W' ⟨he, hb⟩ => ?_
  subst he
  have b0 := Below.trod Try.laidOut (by kernel_rfl) (of_decide_eq_true (by kernel_rfl)) h0k hb (fun x hx => hlt x (by simpa using hx))
  exact ⟨_, rfl, ⟨_, _, _, [], _, [], hW', trodAll_mk1 (shut_bool Try.underlying4 true), trodAll_mk1 b0, rfl, hb.frame _, fun h => by cases h⟩⟩

set_option maxRecDepth 100000 in
theorem walsLifted (os : Os) (started : os.Started) (H : Type) (enc : TypeId × Value → H) (F : Stop.Interp) :
    ReturnsInHanded {} Try.checked os 10 .any ((Rows.OpenSpec.upto Rows.walsSpec).pre6 enc Try.prog Try.f10 Rows.walsUptoRow.domain false) (((Rows.OpenSpec.upto Rows.walsSpec).at F).post enc Try.prog Try.f10 false true false false) := by
  refine returnsInHanded_of_cond (C := Try.checked) (s := Rows.OpenSpec.upto Rows.walsSpec) (k := Rows.uptoSmall) rfl Try.own started (by kernel_rfl) Try.func10
    (OpenSpec.witness (enc := enc) (C := Try.checked) (s := Rows.OpenSpec.upto Rows.walsSpec) (k := Rows.uptoSmall) rfl false ⟨#[], #[.slice none 0 0], []⟩ 8 (by kernel_rfl) (by kernel_rfl) (by kernel_rfl)
      (x := ([.nil], [], [])) (by kernel_rfl) rfl (by kernel_rfl)) ?_
  intro W base args ds gs before hval hW _ hk _
  exact walsContract H enc W base args ds gs before hval hW hk

theorem wals_upto_holds : Rows.WalsUptoSaid :=
  OpenClaim.holds_of_cond 10 Try.f10 rfl rfl rfl rfl rfl rfl rfl ⟨rfl, rfl, rfl, rfl, rfl⟩ rfl rfl rfl rfl rfl (by kernel_rfl) Try.func10 (by kernel_rfl)
    (of_decide_eq_true (by kernel_rfl)) (by unfold Func.isWrapper; rw [if_neg (of_decide_eq_false (by kernel_rfl))]; exact ⟨rfl, rfl⟩)
    (fun os started H enc _ F => walsLifted os started H enc F)
#print axioms wals_upto_holds
end Go.Proofs.Ytcbbnmodjnnbeaa
