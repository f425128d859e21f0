/- append of a whole list to what is owned. -/
import Derived.Test.YtcbbnmodjnnbeaaLite
import Derived.Test.YtcbbnmodjnnbeaaWalK
set_option linter.unusedSimpArgs false
set_option linter.unusedVariables false
namespace Go
open Go.RowKit
theorem src_list {P : Program} {w : World} {t e : TypeId} {sz : Nat} (ht : P.underlying t = some (.slice e)) (sp : Option Addr) (M sCap : Nat) (xs : List (List Value)) (hM : xs.length = M) (hr : xs ≠ [] → w.reads sz (.slice sp M sCap) xs) (h1 : ∀ x ∈ xs, ∀ u ∈ x, u.oneCell' = true) : Src P sz t (.slice sp M sCap) M xs.flatten w := by
  subst hM
  by_cases e0 : xs = []
  · subst e0
    cases sp with
    | none => exact Src.ofNil w ht sCap
    | some ad => exact Src.ofSlice w ht ad 0 sCap [] (by simp) (fun j u hj => by simp at hj) (fun u hu => by cases hu)
  · rcases hr e0 with ⟨_, e2⟩ | ⟨b, off, cc, e2, hbg, hc⟩
    · exact absurd e2 e0
    · injection e2 with e2 _ _
      subst e2
      have hlen : ∀ x ∈ xs, x.length = sz := fun x hx => by
        obtain ⟨i, hi⟩ := List.getElem?_of_mem hx
        exact (hc i x hi).1
      have hfl : xs.flatten.length = xs.length * sz := flatten_len sz xs hlen
      refine Src.ofSlice w ht _ xs.length sCap xs.flatten hfl (fun j u hj => ?_) (fun u hu => ?_)
      · have hjl : j < xs.length * sz := by rw [← hfl]; exact (List.getElem?_eq_some_iff.1 hj).1
        have hs0 : 0 < sz := by
          rcases Nat.eq_zero_or_pos sz with h0 | h0
          · rw [h0] at hjl; omega
          · exact h0
        have hq : j / sz < xs.length := (Nat.div_lt_iff_lt_mul hs0).2 hjl
        have hx := List.getElem?_eq_getElem hq
        have hm := Nat.mod_lt j hs0
        have e1 := flatten_at sz xs (j / sz) _ hlen hx (j % sz) hm
        have e2 : j / sz * sz + j % sz = j := by rw [Nat.mul_comm]; exact Nat.div_add_mod j sz
        rw [e2] at e1
        rw [e1] at hj
        have := (hc (j / sz) _ hx).2 (j % sz) u hj
        rw [Addr.add_lit]
        rw [show off + j / sz * sz + j % sz = off + j by omega] at this
        exact this
      · obtain ⟨x, hx, hux⟩ := List.mem_flatten.1 hu
        exact h1 x hx u hux
theorem wpL_app {P : Program} {w : World} {ops : Array Oper} {rest : List Oper} {o : Oper} {a : Act} {Q : Exit → Act → World → Prop} (hgd : o.guard = none) (sl xo : Operand) (t : TypeId)
    (ho : o.op = .call { callee := .builtin .append, args := #[sl, xo], argTypes := #[t, t] }) (e : TypeId) (sz by_ : Nat) (z : Value) (ht : P.underlying t = some (.slice e)) (hinfo : (P.info? e).map (fun i => (i.zero, i.size, i.bytes)) = some (some z, sz, by_)) (hz : z.cells.size = sz) (hsz : 0 < sz)
    (v : Value) (cs : List (List Value)) (hv : a.eval sl = v) (hown : w.ownL e sz v cs)
    (sp : Option Addr) (M sCap : Nat) (xs : List (List Value)) (hx : a.eval xo = .slice sp M sCap) (hM : xs.length = M) (hr : xs ≠ [] → w.reads sz (.slice sp M sCap) xs) (hxl : ∀ x ∈ xs, x.length = sz) (h1 : ∀ x ∈ xs, ∀ u ∈ x, u.oneCell' = true) (hlen : cs.length + M ≤ maxLen) (hby : (cs.length + M) * by_ ≤ 140737488355328)
    (h : ∀ a' cap' w', w'.ownL e sz (.slice a' (cs.length + M) cap') (cs ++ xs) → Grew w w' v (.slice a' (cs.length + M) cap') → ((Value.slice a' (cs.length + M) cap').ownBlock = v.ownBlock ∨ Below w.heap.size w w') → wpList P ops Q rest (a.put o.dst (.slice a' (cs.length + M) cap')) w') : wpList P ops Q (o :: rest) a w := by
  obtain ⟨i, hi, hz', h1', hb⟩ := info_parts hinfo
  refine wpList_plain hgd fun K hK => ?_
  obtain ⟨v', w', hrun, h2, h3, h4⟩ := run_append_grew2 (P := P) w 0 t t o.type e i z ht hi hz' (by rw [h1']; exact hz) (by omega) v cs.length cs.flatten (by rw [h1']; exact hown.1) (.slice sp M sCap) M xs.flatten
    (by rw [h1']; exact src_list ht sp M sCap xs hM hr h1) hlen (by rw [hb]; exact hby) (Nat.zero_le _)
  have hl : w'.ownL e sz v' (cs ++ xs) := by
    refine ⟨?_, fun x hx => ?_⟩
    · rw [← h1', List.length_append, List.flatten_append, hM]; exact h2
    · rcases List.mem_append.1 hx with hx | hx
      · exact hown.2 x hx
      · exact hxl x hx
  obtain ⟨a', cap', hv'⟩ := hl.len
  rw [List.length_append, hM] at hv'
  subst hv'
  unfold Oper.wp execOp
  simp only [ho, resolve, invoke, builtin, Sem.run_bind, Sem.run_pure, Result.andThen_ok, List.map_toArray, List.map_cons, List.map_nil, hv, hx, hrun]
  exact hK _ _ (h _ _ _ hl h3 h4)
end Go
/- A journal's State: the program. -/
set_option linter.unusedSimpArgs false
set_option linter.unusedVariables false
namespace Go.Proofs.Ytcbbnmodjnnbeaa
open Go.RowKit

theorem ownL_empty (w : World) (e : TypeId) (sz : Nat) : (w.alloc (.cells #[] e)).ownL e sz (.slice (some ⟨w.heap.size, 0, none⟩) 0 0) [] :=
  ⟨⟨by simp, .inr ⟨w.heap.size, 0, _, rfl, Nat.zero_le _, heap_alloc_new w _, Nat.le_refl _, by unfold maxLen; decide, by simp, by simp⟩⟩, fun _ h => by cases h⟩
theorem ext_swap {W W' : World} (x : Grow) (hs : W.heap.size = W'.heap.size) {k : Nat} (hk : W.heap.size ≤ k) : (W'.ext x).heap[k]? = (W.ext x).heap[k]? := by
  simp only [World.ext]
  rw [Array.getElem?_append_right (by omega), Array.getElem?_append_right hk, hs]
theorem ety_one (l : List Ety) : ∀ x ∈ l.map Ety.cells, ∀ u ∈ x, u.oneCell' = true := fun x hx u hu => by
  obtain ⟨y, _, rfl⟩ := List.mem_map.1 hx
  simp only [Ety.cells, Cmd.cells, List.mem_cons, List.not_mem_nil, or_false] at hu
  rcases hu with rfl | rfl | rfl | rfl | rfl | rfl | rfl | rfl <;> rfl
theorem ety_len (l : List Ety) : ∀ x ∈ l.map Ety.cells, x.length = 8 := fun x hx => by
  obtain ⟨y, _, rfl⟩ := List.mem_map.1 hx
  rfl
set_option maxRecDepth 100000 in
set_option maxHeartbeats 4000000 in
theorem walClone (w : World) (lv : Value) (l : List Ety) (h : w.ownL 135 8 lv (l.map Ety.cells)) (hn : l.length ≤ 1000000000) :
    Calls Try.prog 99 #[lv] w fun e w' => ∃ lv', e = .returned lv' ∧ w'.ownL 135 8 lv' (l.map Ety.cells) ∧ (∀ k, lv'.ownBlock = some k → w.heap.size ≤ k) ∧ Below w.heap.size w w' := by
  have hnn : ∀ w, (binOp .eql 88 (.slice none 0 0) (.slice none 0 0)).run Try.prog w = .ok (.bool true) w := fun _ => by kernel_rfl
  have hns : ∀ g n c w, (binOp .eql 88 (.slice (some ⟨g, 0, none⟩) n c) (.slice none 0 0)).run Try.prog w = .ok (.bool false) w := fun _ _ _ _ => by kernel_rfl
  have HN : Hid (l.length ≤ 1000000000) := hn
  have H : Hid (w.ownL 135 8 lv (l.map Ety.cells)) := h
  clear hn
  rcases h.1.2 with ⟨h1, h2⟩ | ⟨g, cap, cur, hv, -⟩
  · subst h1
    rw [List.length_map] at h2
    have hl : l = [] := List.length_eq_zero_iff.1 h2
    subst hl
    clear h h2
    go_enter Try.func99, Try.ntmps99
    go_wp2_with fail
    go_ret
    exact ⟨_, rfl, World.ownL.nil _ _ _, fun k hk => (by cases hk), Below.refl _ _⟩
  · rw [List.length_map] at hv
    subst hv
    clear h
    go_enter Try.func99, Try.ntmps99
    go_wp2_with (at_builtin; refine Held.out ?_)
    unfold Held
    refine wpL_app rfl _ _ 88 rfl 135 8 88 _ Try.underlying88 infoEtyL rfl (by decide) (.slice (some ⟨w.heap.size, 0, none⟩) 0 0) [] rfl (ownL_empty w _ 8) _ l.length _ (l.map Ety.cells) rfl (List.length_map _) (fun _ => (H.out.alloc _).reads) (ety_len _) (ety_one _) (by simp only [List.length_nil]; unfold maxLen; have := HN.out; omega) (by simp only [List.length_nil]; have := HN.out; omega) ?_
    intro a3 cap3 w3 ho3 hg3 hb3
    simp only [List.length_nil, Nat.zero_add, List.nil_append] at ho3 hg3 hb3 ⊢
    have hsz : (w.alloc (.cells #[] 135)).heap.size = w.heap.size + 1 := by simp
    have HO3 : Hid (w3.ownL 135 8 (.slice a3 l.length cap3) (l.map Ety.cells)) := ho3
    have HB3 : Hid (Below w.heap.size w w3) := by
      refine ⟨hg3.g.os, hg3.g.tape, hg3.g.output, ?_, fun k hk => ?_⟩
      · have := hg3.g.size; omega
      · have e1 := hg3.g.block k (by omega) (fun e => by injection e with e; simp only at e; omega)
        exact e1.trans (Below.heap_alloc _ _ _ hk)
    have HK3 : Hid (∀ k, (Value.slice a3 l.length cap3).ownBlock = some k → w.heap.size ≤ k) := by
      intro k hk
      rcases hg3.own with h | h
      · rw [h] at hk; cases hk; exact Nat.le_refl _
      · have := h k hk; omega
    clear ho3 hg3 hb3 hsz
    go_wp2_with fail
    go_ret
    exact ⟨_, rfl, HO3.out, HK3.out, HB3.out⟩
set_option maxRecDepth 100000 in
set_option maxHeartbeats 4000000 in
theorem walState (w : World) (p j k : Nat) (lv : Value) (S : WSt) (h : StaAt w j 2 [.pointer (some ⟨p, 0, none⟩), .int .i64 k] 182 lv S) (hn : S.log.length ≤ 1000000000) :
    Calls Try.prog 42 #[.pointer (some ⟨j, 0, none⟩)] w fun e w' => ∃ lv', e = .returned (.tuple #[.agg (S.cellsA lv').toArray, .int .i64 0]) ∧ w'.ownL 135 8 lv' (S.log.map Ety.cells) ∧ (∀ k, lv'.ownBlock = some k → w.heap.size ≤ k) ∧ Below w.heap.size w w' := by
  have HN : Hid (S.log.length ≤ 1000000000) := hn
  have H : Hid (StaAt w j 2 [.pointer (some ⟨p, 0, none⟩), .int .i64 k] 182 lv S) := h
  have c0 : w.cell? ⟨j, 0, none⟩ = some (.pointer (some ⟨p, 0, none⟩)) := by simp only [World.cell?, h.blk]; rfl
  obtain ⟨q0, q1, q2, q3, q4, q5, q6, qf⟩ := h.cells
  have hj := h.lt
  have hb := h.blk
  obtain ⟨av, cv, hv⟩ := h.log.len
  rw [List.length_map] at hv
  obtain ⟨n, hn9⟩ : ∃ n, n = S.log.length := ⟨_, rfl⟩
  rw [← hn9] at hv
  subst hv
  unfold WSt.cellsA at hb
  simp only [List.cons_append, List.nil_append] at hb
  clear h hn hn9
  unfold WSt.cellsA
  go_enter Try.func42, Try.ntmps42
  go_wp2_with (go_at_call 99; refine (walClone _ _ S.log ((H.out.log.alloc _).alloc _) HN.out).mono ?_; rintro e w1 ⟨lv1, rfl, ho1, hk1, hb1⟩; obtain ⟨a1, c1, hv1⟩ := ho1.len; rw [List.length_map] at hv1; obtain ⟨n1, hn1⟩ : ∃ n, n = S.log.length := ⟨_, rfl⟩; rw [← hn1] at hv1; subst hv1; obtain ⟨x1, rfl⟩ := Below.ext hb1; have HO1 : Hid (World.ownL _ 135 8 (.slice a1 n1 c1) (S.log.map Ety.cells)) := ho1; have HK1 : Hid (_) := hk1; clear hb1 ho1 hk1 hn1)
  exact bodyPost_ret (v := .tuple #[.agg #[.int .i64 S.gen, .int .i64 S.term, .int .i64 S.vote, .int .i64 S.base, .int .i64 S.bterm, .string S.data, .slice a1 n1 c1], .int .i64 0]) (by simp [results, Try.results42, go_sem]) rfl ⟨_, rfl, HO1.out.keep fun k hk => ext_swap _ (by simp) (HK1.out k hk), fun k hk => by have := HK1.out k hk; simp at this; omega, (by repeat (first | exact Below.refl _ _ | assumption | with_reducible refine below_drewN ?_ _ | refine Gr.ext ?_ _ | refine Gr.alloc ?_ _ | refine Gr.drew ?_ | (refine Gr.set ?_ (by first | (simp; done) | (simp; omega)) _)))⟩
theorem walStateOver (w : World) (j : Nat) (h : w.heap[j]? = some (.cells zeroWal 182)) :
    Calls Try.prog 42 #[.pointer (some ⟨j, 0, none⟩)] w fun e w' => e = .returned (.tuple #[.agg (WSt.zero.cellsA (.slice none 0 0)).toArray, .int .i64 4]) ∧ Below w.heap.size w w' := by
  have H : Hid (w.heap[j]? = some (.cells zeroWal 182)) := h
  have c0 : w.cell? ⟨j, 0, none⟩ = some (.pointer none) := by simp only [World.cell?, h]; rfl
  have qf : ∀ q, w.frozen? ⟨j, q, none⟩ = false := fun q => by simp [World.frozen?, h]
  have hj : j < w.heap.size := (Array.getElem?_eq_some_iff.1 h).1
  clear h
  go_enter Try.func42, Try.ntmps42
  go_wp2_with fail
  refine bodyPost_ret (v := .tuple #[.agg (WSt.zero.cellsA (.slice none 0 0)).toArray, .int .i64 4]) (by simp [results, Try.results42, go_sem, WSt.cellsA, WSt.zero]; rfl) rfl ?_
  exact ⟨rfl, Gr.alloc (Below.refl _ _) _⟩
end Go.Proofs.Ytcbbnmodjnnbeaa
/- A journal's Write: the program. -/
set_option linter.unusedSimpArgs false
set_option linter.unusedVariables false
namespace Go.Proofs.Ytcbbnmodjnnbeaa
open Go.RowKit

def Dk.write (D : Dk) (k : Nat) (l : List UInt8) : Bool × Dk := if (D.app k l).act.1 = true then (D.app k l).act.2.sync k else (D.app k l).act
def wWrite (D : Dk) (k : Nat) (S : WSt) (rs : List Rec) : Int × (Bool × Dk) × WSt :=
  if (rs.all fun x => x.may) = true ∧ (rs.any fun x => x.kind == 1) = false then
    if rs = [] then (0, (true, D), S)
    else if (D.write k (jrnL rs)).1 = true then (0, D.write k (jrnL rs), S.takes rs) else (4, D.write k (jrnL rs), S)
  else (2, (true, D), S)
/-- What a journal's call leaves: the journal goes on, or it is over. -/
def JOut (w w' : World) (p : Nat) (v0 v1 : Value) (j : Nat) (lv : Value) (r : Bool × Dk) (k : Nat) (S' : WSt) : Prop :=
  ∃ u0 u1 kp' lv', (r.1 = true → LiveAt w' p u0 u1 j lv' kp' r.2 k S') ∧ (r.1 = false → DiskAt w' p u0 u1 none kp' r.2 ∧ w'.heap[j]? = some (.cells zeroWal 182)) ∧ (∀ x, footD p u0 u1 x ∨ (r.1 = true ∧ lv'.ownBlock = some x) → footV p v0 v1 j lv x ∨ w.heap.size ≤ x) ∧ w.turned w' (footV p v0 v1 j lv)
theorem LiveAt.lt {w : World} {p : Nat} {v0 v1 : Value} {j : Nat} {lv : Value} {kp : Int} {D : Dk} {k : Nat} {S : WSt} (h : LiveAt w p v0 v1 j lv kp D k S) {x : Nat} (hx : footV p v0 v1 j lv x) : x < w.heap.size := by
  rcases hx with hx | rfl | hx
  · exact h.disk.foot_lt hx
  · exact h.st.lt
  · exact h.st.log.lt hx
theorem LiveAt.njf {w : World} {p : Nat} {v0 v1 : Value} {j : Nat} {lv : Value} {kp : Int} {D : Dk} {k : Nat} {S : WSt} (h : LiveAt w p v0 v1 j lv kp D k S) : ¬ footD p v0 v1 j := by
  obtain ⟨a, b, c, _⟩ := h.disk.jb j rfl
  rintro (e | e | e)
  · exact a e
  · exact b e
  · exact c e
theorem LiveAt.grown {w w' : World} {p : Nat} {v0 v1 : Value} {j : Nat} {lv : Value} {kp : Int} {D : Dk} {k : Nat} {S : WSt} (h : LiveAt w p v0 v1 j lv kp D k S) (hb : Below w.heap.size w w') : LiveAt w' p v0 v1 j lv kp D k S :=
  ⟨h.disk.grown hb, h.st.grown hb, h.sep⟩
theorem LiveAt.still {w w' : World} {p : Nat} {v0 v1 : Value} {j : Nat} {lv : Value} {kp : Int} {D : Dk} {k : Nat} {S : WSt} (h : LiveAt w p v0 v1 j lv kp D k S) (hb : Below w.heap.size w w') : JOut w w' p v0 v1 j lv (true, D) k S :=
  ⟨v0, v1, kp, lv, fun _ => h.grown hb, (fun h => by cases h), (fun x hx => .inl (hx.elim (fun e => .inl e) fun e => .inr (.inr e.2))), World.turned.of_below hb _⟩
theorem LiveAt.out {w w' : World} {p : Nat} {v0 v1 : Value} {j : Nat} {lv : Value} {kp : Int} {D : Dk} {k : Nat} {S : WSt} (h : LiveAt w p v0 v1 j lv kp D k S) {r : Bool × Dk} (hd : DOut w w' p v0 v1 (some j) r) : JOut w w' p v0 v1 j lv r k S := by
  obtain ⟨u0, u1, kp', a, b, c, d⟩ := hd
  have hs := d.size
  refine ⟨u0, u1, kp', lv, fun hr => ?_, fun hr => ⟨by rw [if_neg (by rw [hr]; decide)] at a; exact a, c hr j rfl⟩, fun x hx => ?_, d.mono fun k _ h => ?_⟩
  · rw [if_pos hr] at a
    have hj := d.block j h.st.lt (fun e => e.elim (fun e => h.njf e) fun e => by rw [hr] at e; cases e.1)
    refine ⟨a, h.st.keep hj fun x hx => d.block x (h.st.log.lt hx) (fun e => e.elim (fun e => h.sep x hx e) fun e => by rw [hr] at e; cases e.1), fun x hx hf => ?_⟩
    rcases b x hf with e | e
    · exact h.sep x hx e
    · have := h.st.log.lt hx; omega
  · rcases hx with hx | hx
    · rcases b x hx with e | e
      · exact .inl (.inl e)
      · exact .inr e
    · exact .inl (.inr (.inr hx.2))
  · rcases h with h | ⟨_, h⟩
    · exact .inl h
    · injection h with h; exact .inr (.inl h.symm)
theorem LiveAt.took {w w' : World} {p : Nat} {v0 v1 : Value} {j : Nat} {lv : Value} {kp : Int} {D : Dk} {k : Nat} {S S' : WSt} (h : LiveAt w p v0 v1 j lv kp D k S) (hd : StOut w w' j 2 [.pointer (some ⟨p, 0, none⟩), .int .i64 k] 182 lv S') : JOut w w' p v0 v1 j lv (true, D) k S' := by
  obtain ⟨lv', a, b, d⟩ := hd
  have hs := d.size
  have hk : ∀ x, footD p v0 v1 x → w'.heap[x]? = w.heap[x]? := fun x hx => d.block x (h.disk.foot_lt hx) (fun e => e.elim (fun e => h.njf (e ▸ hx)) fun e => h.sep x e hx)
  refine ⟨v0, v1, kp, lv', fun _ => ⟨⟨(hk p (.inl rfl)).trans h.disk.blk, h.disk.kq, h.disk.kb, h.disk.db, h.disk.o0.keep fun x hx => hk x (.inr (.inl hx)), h.disk.o1.keep fun x hx => hk x (.inr (.inr hx)), h.disk.n0, h.disk.n1, h.disk.dis, h.disk.fit, fun j' hj' => ?_⟩, a, fun x hx hf => ?_⟩, (fun e => by cases e), fun x hx => ?_, d.mono fun x _ hx => ?_⟩
  · obtain ⟨e1, e2, e3, _⟩ := h.disk.jb j' hj'
    injection hj' with e
    subst e
    exact ⟨e1, e2, e3, _, rfl, a.blk⟩
  · rcases b x hx with e | e
    · exact h.sep x e hf
    · have := h.disk.foot_lt hf; omega
  · rcases hx with hx | ⟨_, hx⟩
    · exact .inl (.inl hx)
    · rcases b x hx with e | e
      · exact .inl (.inr (.inr e))
      · exact .inr e
  · exact .inr (hx.elim (fun e => .inl e) fun e => .inr e)
theorem JOut.behind {w w1 w2 : World} {p : Nat} {v0 v1 u0 u1 : Value} {j : Nat} {lv lv1 : Value} {r : Bool × Dk} {k : Nat} {S' : WSt} (hf : ∀ x, footV p u0 u1 j lv1 x → footV p v0 v1 j lv x ∨ w.heap.size ≤ x) (ht : w.turned w1 (footV p v0 v1 j lv)) (h : JOut w1 w2 p u0 u1 j lv1 r k S') : JOut w w2 p v0 v1 j lv r k S' := by
  obtain ⟨x0, x1, kp', lv', a, b, c, d⟩ := h
  have hs := ht.size
  refine ⟨x0, x1, kp', lv', a, b, fun x hx => ?_, ht.trans d fun x hx h => ?_⟩
  · rcases c x hx with e | e
    · exact hf x e
    · exact .inr (by omega)
  · rcases hf x h with e | e
    · exact e
    · omega
/-- The journal goes on: where it stands then. -/
theorem JOut.live {w w' : World} {p : Nat} {v0 v1 : Value} {j : Nat} {lv : Value} {r : Bool × Dk} {k : Nat} {S' : WSt} (h : JOut w w' p v0 v1 j lv r k S') (hr : r.1 = true) : ∃ u0 u1 kp' lv', LiveAt w' p u0 u1 j lv' kp' r.2 k S' ∧ (∀ x, footV p u0 u1 j lv' x → footV p v0 v1 j lv x ∨ w.heap.size ≤ x) ∧ w.turned w' (footV p v0 v1 j lv) := by
  obtain ⟨x0, x1, kp', lv', a, b, c, d⟩ := h
  refine ⟨x0, x1, kp', lv', a hr, fun x hx => ?_, d⟩
  rcases hx with hx | rfl | hx
  · exact c x (.inl hx)
  · exact .inl (.inr (.inl rfl))
  · exact c x (.inr ⟨hr, hx⟩)
/-- It is over: whatever its state was. -/
theorem JOut.over {w w' : World} {p : Nat} {v0 v1 : Value} {j : Nat} {lv : Value} {r : Bool × Dk} {k k2 : Nat} {S S2 : WSt} (h : JOut w w' p v0 v1 j lv r k S) (hr : r.1 = false) : JOut w w' p v0 v1 j lv r k2 S2 := by
  obtain ⟨x0, x1, kp', lv', a, b, c, d⟩ := h
  exact ⟨x0, x1, kp', lv', (fun e => by rw [hr] at e; cases e), b, c, d⟩
theorem jrnL_ne {rs : List Rec} (h : rs ≠ []) : (jrnL rs).length ≠ 0 := by
  cases rs with
  | nil => exact absurd rfl h
  | cons r rs => rw [jrnL_cons]; simp only [oneL, List.length_append, be_length]; omega
set_option maxRecDepth 100000 in
set_option maxHeartbeats 8000000 in
theorem walWrite (w : World) (p : Nat) (v0 v1 : Value) (j : Nat) (lv : Value) (kp : Int) (D : Dk) (k : Nat) (S : WSt) (h : LiveAt w p v0 v1 j lv kp D k S) (hk : k = 0 ∨ k = 1) (a : Option Addr) (cap : Nat) (rs : List Rec) (hr : w.reads 14 (.slice a rs.length cap) (rs.map Rec.cells)) (hcap : rs.length ≤ cap) (hcm : cap ≤ maxLen)
    (hsep : ∀ x, (Value.slice a rs.length cap).ownBlock = some x → ¬ footV p v0 v1 j lv x) (hb0 : -9000000000 ≤ S.base ∧ S.base ≤ 9000000000) (hn : S.log.length + rs.length ≤ 1000000000) (hl : (jrnL rs).length ≤ 100000000) (hf : (D.file k).length ≤ 100000000) :
    Calls Try.prog 41 #[.pointer (some ⟨j, 0, none⟩), .slice a rs.length cap] w fun e w' => e = .returned (.int .i64 (wWrite D k S rs).1) ∧ JOut w w' p v0 v1 j lv (wWrite D k S rs).2.1 k (wWrite D k S rs).2.2 := by
  have H : Hid (LiveAt w p v0 v1 j lv kp D k S) := h
  have c0 : w.cell? ⟨j, 0, none⟩ = some (.pointer (some ⟨p, 0, none⟩)) := by simp only [World.cell?, h.st.blk]; rfl
  have c1 : w.cell? ⟨j, 1, none⟩ = some (.int .i64 k) := by simp only [World.cell?, h.st.blk]; rfl
  obtain ⟨q0, q1, q2, q3, q4, q5, q6, qf⟩ := h.st.cells
  have hj := h.st.lt
  have HR : Hid (w.reads 14 (.slice a rs.length cap) (rs.map Rec.cells)) := hr
  have HSEP : Hid (∀ x, (Value.slice a rs.length cap).ownBlock = some x → ¬ footV p v0 v1 j lv x) := hsep
  have HB0 : Hid (-9000000000 ≤ S.base ∧ S.base ≤ 9000000000) := hb0
  have HN : Hid (S.log.length + rs.length ≤ 1000000000) := hn
  have HL : Hid ((jrnL rs).length ≤ 100000000) := hl
  have HF : Hid ((D.file k).length ≤ 100000000) := hf
  have HK : Hid (k = 0 ∨ k = 1) := hk
  have hrl : rs.length ≤ 1000000000 := by omega
  clear h hr hsep hb0 hn hl hf hk
  go_enter Try.func41, Try.ntmps41
  go_wp2_with fail
  refine (walBytes a cap rs _ (by omega) HL.out (fun _ => HR.out)).mono ?_
  rintro e w1 ⟨v, er, rfl, hb1, hcase⟩
  have H1 : Hid (LiveAt w1 p v0 v1 j lv kp D k S) := H.out.grown hb1
  have HB1 : Hid (Below w.heap.size w w1) := hb1
  rcases hcase with ⟨hmay, rfl, hown⟩ | ⟨hmay, rfl⟩
  · have HM : Hid (∀ r ∈ rs, r.may = true) := hmay
    have HO : Hid (OwnB w1 w.heap.size v (jrnL rs)) := hown
    obtain ⟨va, vn, vc, hv⟩ := hown.shape3
    subst hv
    clear hmay hown hb1
    go_wp2_with fail
    refine (walContainsBase a cap rs w1 (by omega) (HR.out.keep fun x hx => HB1.out.block x (reads_lt HR.out hx))).mono ?_
    rintro e w2 ⟨rfl, hb2⟩
    have H2 : Hid (LiveAt w2 p v0 v1 j lv kp D k S) := H1.out.grown hb2
    have HO2 : Hid (OwnB w2 w.heap.size (.slice va vn vc) (jrnL rs)) := HO.out.keep fun x hx => hb2.block x (HO.out.lt hx).2
    have HB2 : Hid (Below w.heap.size w w2) := HB1.out.trans (hb2.mono HB1.out.size)
    have HMB : Hid ((rs.all fun x => x.may) = true) := List.all_eq_true.2 HM.out
    clear hb2
    obtain ⟨bs, hbs⟩ : ∃ bs, bs = (rs.any fun x => x.kind == 1) := ⟨_, rfl⟩
    have HBS : Hid (bs = (rs.any fun x => x.kind == 1)) := hbs
    rw [← hbs]
    clear hbs HO H1 HB1
    cases bs with
    | true =>
      go_wp2_with fail
      go_ret
      have e1 : wWrite D k S rs = (2, (true, D), S) := by unfold wWrite; rw [if_neg (by rw [← HBS.out]; rintro ⟨_, h⟩; cases h)]
      rw [e1]
      exact ⟨rfl, H.out.still HB2.out⟩
    | false =>
      by_cases hnil : rs = []
      · subst hnil
        go_wp2_with fail
        go_ret
        exact ⟨rfl, H.out.still HB2.out⟩
      · have hlen : rs.length ≠ 0 := fun e => hnil (List.length_eq_zero_iff.1 e)
        have e1 : wWrite D k S rs = if (D.write k (jrnL rs)).1 = true then (0, D.write k (jrnL rs), S.takes rs) else (4, D.write k (jrnL rs), S) := by
          unfold wWrite; rw [if_pos ⟨HMB.out, HBS.out.symm⟩, if_neg hnil]
        have HE : Hid (wWrite D k S rs = if (D.write k (jrnL rs)).1 = true then (0, D.write k (jrnL rs), S.takes rs) else (4, D.write k (jrnL rs), S)) := e1
        have HLN : Hid ((jrnL rs).length ≠ 0) := jrnL_ne hnil
        clear e1 hnil
        obtain ⟨va', vc', hv', -, -, hva⟩ := HO2.out.shape
        obtain ⟨g, hg⟩ : ∃ g, va = some ⟨g, 0, none⟩ := by
          injection hv' with h1 h2 h3
          rcases hva with hva | ⟨g, hva⟩
          · exfalso
            rcases HO2.out.2 with ⟨_, h5⟩ | ⟨g, c, cur, hv, _⟩
            · exact HLN.out h5
            · injection hv with h6; rw [h1, hva] at h6; cases h6
          · exact ⟨g, by rw [h1, hva]⟩
        clear hv' hva
        subst hg
        have z0 : w2.cell? ⟨j, 0, none⟩ = some (.pointer (some ⟨p, 0, none⟩)) := by simp only [World.cell?, H2.out.st.blk]; rfl
        have z1 : w2.cell? ⟨j, 1, none⟩ = some (.int .i64 k) := by simp only [World.cell?, H2.out.st.blk]; rfl
        have zf : ∀ o, w2.frozen? ⟨j, o, none⟩ = false := fun o => by simp [World.frozen?, H2.out.st.blk]
        have hj2 := H2.out.st.lt
        go_wp2_with fail
        go_region
        go_wp2_with fail
        obtain ⟨wd, hwd⟩ : ∃ W, W = w2.drew := ⟨_, rfl⟩
        rw [← hwd]
        have hbd : Below w2.heap.size w2 wd := by rw [hwd]; exact (by repeat (first | exact Below.refl _ _ | assumption | with_reducible refine below_drewN ?_ _ | refine Gr.ext ?_ _ | refine Gr.alloc ?_ _ | refine Gr.drew ?_ | (refine Gr.set ?_ (by first | (simp; done) | (simp; omega)) _)))
        replace H2 : Hid (LiveAt wd p v0 v1 j lv kp D k S) := H2.out.grown hbd
        replace HO2 : Hid (OwnB wd w.heap.size (.slice (some ⟨g, 0, none⟩) vn vc) (jrnL rs)) := HO2.out.keep fun x hx => hbd.block x (HO2.out.lt hx).2
        replace HB2 : Hid (Below w.heap.size w wd) := HB2.out.trans (hbd.mono HB2.out.size)
        clear hbd hwd z0 z1 zf hj2
        refine (walPut wd p v0 v1 (some j) kp D H2.out.disk k HK.out g vn vc (jrnL rs) (ownsRow_base HO2.out fun _ _ => Nat.zero_le _) (by have := HL.out; have := HF.out; omega)).mono ?_
        rintro e w3 ⟨rfl, hd3⟩
        have hj3 := H2.out.out hd3
        obtain ⟨r3, hr3⟩ : ∃ r3, r3 = (D.app k (jrnL rs)).act := ⟨_, rfl⟩
        rw [← hr3] at hj3 ⊢
        have HR3 : Hid (r3 = (D.app k (jrnL rs)).act) := hr3
        have hs2 := HB2.out.size
        have HJ3 : Hid (JOut w w3 p v0 v1 j lv r3 k S) := hj3.behind (fun x hx => .inl hx) (World.turned.of_below HB2.out _)
        clear hd3 hj3 hr3 HO2
        obtain ⟨b3, D3⟩ := r3
        cases b3 with
        | false =>
          have e2 : D.write k (jrnL rs) = (false, D3) := by unfold Dk.write; rw [← HR3.out]; rfl
          go_wp2_with fail
          go_ret
          rw [HE.out, e2]
          exact ⟨rfl, HJ3.out⟩
        | true =>
          have HE2 : Hid (D.write k (jrnL rs) = D3.sync k) := by show _ = _; unfold Dk.write; rw [← HR3.out]; rfl
          obtain ⟨u0, u1, kp3, lv3, hl3, hf3, ht3⟩ := HJ3.out.live rfl
          have H3 : Hid (LiveAt w3 p u0 u1 j lv3 kp3 D3 k S) := hl3
          have HF3 : Hid (∀ x, footV p u0 u1 j lv3 x → footV p v0 v1 j lv x ∨ w.heap.size ≤ x) := hf3
          have HT3 : Hid (w.turned w3 (footV p v0 v1 j lv)) := ht3
          clear hl3 hf3 ht3 HJ3
          go_wp2_with fail
          refine (walSync w3 p u0 u1 (some j) kp3 D3 H3.out.disk k HK.out).mono ?_
          rintro e w4 ⟨rfl, hd4⟩
          have hj4 := H3.out.out hd4
          rw [HE2.out] at HE
          obtain ⟨r4, hr4⟩ : ∃ r4, r4 = D3.sync k := ⟨_, rfl⟩
          rw [← hr4] at hj4 HE ⊢
          have HJ4 : Hid (JOut w w4 p v0 v1 j lv r4 k S) := hj4.behind HF3.out HT3.out
          clear hd4 hj4 hr4 HE2
          obtain ⟨b4, D4⟩ := r4
          cases b4 with
          | false =>
            go_wp2_with fail
            go_ret
            rw [HE.out]
            exact ⟨rfl, HJ4.out⟩
          | true =>
            obtain ⟨t0, t1, kp4, lv4, hl4, hf4, ht4⟩ := HJ4.out.live rfl
            have H4 : Hid (LiveAt w4 p t0 t1 j lv4 kp4 D4 k S) := hl4
            have HF4 : Hid (∀ x, footV p t0 t1 j lv4 x → footV p v0 v1 j lv x ∨ w.heap.size ≤ x) := hf4
            have HT4 : Hid (w.turned w4 (footV p v0 v1 j lv)) := ht4
            have hj4 := H4.out.st.lt
            clear hl4 hf4 ht4 HJ4
            go_wp2_with fail
            have hr4 : w4.reads 14 (.slice a rs.length cap) (rs.map Rec.cells) := HR.out.keep fun x hx => HT4.out.block x (reads_lt HR.out hx) (HSEP.out x hx)
            have hsp : ∀ x, (Value.slice a rs.length cap).ownBlock = some x → ¬ footV p t0 t1 j lv4 x := fun x hx hf => by
              rcases HF4.out x hf with e | e
              · exact HSEP.out x hx e
              · have := reads_lt HR.out hx; omega
            refine (walTake w4 j 2 [.pointer (some ⟨p, 0, none⟩), .int .i64 k] 182 lv4 S H4.out.st a cap rs hr4 HM.out (fun x hx => ⟨fun e => hsp x hx (.inr (.inl e)), fun e => hsp x hx (.inr (.inr e))⟩) HB0.out HN.out).mono ?_
            rintro e w5 ⟨rfl, hd5⟩
            have hj5 := (H4.out.took hd5).behind HF4.out HT4.out
            have HJ5 : Hid (JOut w w5 p v0 v1 j lv (true, D4) k (S.takes rs)) := hj5
            clear hd5 hj5 hr4 hsp
            go_wp2_with fail
            go_ret
            rw [HE.out]
            exact ⟨rfl, HJ5.out⟩
  · have HM : Hid (∃ r ∈ rs, r.may = false) := hmay
    clear hmay hb1
    go_wp2_with fail
    go_ret
    have e1 : wWrite D k S rs = (2, (true, D), S) := by
      unfold wWrite
      rw [if_neg]
      rintro ⟨h, _⟩
      obtain ⟨r, hr, hm⟩ := HM.out
      have := List.all_eq_true.1 h r hr
      rw [hm] at this; cases this
    rw [e1]
    exact ⟨rfl, H.out.still HB1.out⟩
set_option maxRecDepth 100000 in
set_option maxHeartbeats 4000000 in
theorem walWriteOver (w : World) (j : Nat) (h : w.heap[j]? = some (.cells zeroWal 182)) (a : Option Addr) (n cap : Nat) :
    Calls Try.prog 41 #[.pointer (some ⟨j, 0, none⟩), .slice a n cap] w fun e w' => e = .returned (.int .i64 4) ∧ Below w.heap.size w w' := by
  have c0 : w.cell? ⟨j, 0, none⟩ = some (.pointer none) := by simp only [World.cell?, h]; rfl
  have qf : ∀ q, w.frozen? ⟨j, q, none⟩ = false := fun q => by simp [World.frozen?, h]
  have hj : j < w.heap.size := (Array.getElem?_eq_some_iff.1 h).1
  clear h
  go_enter Try.func41, Try.ntmps41
  go_wp2_with fail
  go_ret
  exact ⟨rfl, Below.refl _ _⟩
end Go.Proofs.Ytcbbnmodjnnbeaa
