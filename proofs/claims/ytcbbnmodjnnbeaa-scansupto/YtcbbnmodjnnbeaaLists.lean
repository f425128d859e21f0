/- Lists of structs in memory: what a slice reads as, whoever owns it. -/
import Derived.Test.YtcbbnmodjnnbeaaExt
import Derived.Test.YtcbbnmodjnnbeaaPack2
import Derived.Deep.MidRow
set_option linter.unusedSimpArgs false
set_option linter.unusedVariables false
namespace Go
open Go.RowKit

theorem flatten_at {α : Type} (sz : Nat) : ∀ (cs : List (List α)) (i : Nat) (c : List α), (∀ c ∈ cs, c.length = sz) → cs[i]? = some c → ∀ j, j < sz → cs.flatten[i * sz + j]? = c[j]?
  | [], i, c, _, h, _, _ => by simp at h
  | x :: xs, 0, c, hs, h, j, hj => by
    have : x = c := by simpa using h
    subst this
    rw [List.flatten_cons, Nat.zero_mul, Nat.zero_add, List.getElem?_append_left (by rw [hs x (by simp)]; exact hj)]
  | x :: xs, i + 1, c, hs, h, j, hj => by
    have hx := hs x (by simp)
    have ih := flatten_at sz xs i c (fun c hc => hs c (by simp [hc])) (by simpa using h) j hj
    rw [List.flatten_cons, List.getElem?_append_right (by rw [hx, Nat.succ_mul]; omega), hx, show (i + 1) * sz + j - sz = i * sz + j by rw [Nat.succ_mul]; omega]
    exact ih
theorem flatten_len {α : Type} (sz : Nat) : ∀ (cs : List (List α)), (∀ c ∈ cs, c.length = sz) → cs.flatten.length = cs.length * sz
  | [], _ => by simp
  | x :: xs, hs => by
    rw [List.flatten_cons, List.length_append, hs x (by simp), flatten_len sz xs (fun c hc => hs c (by simp [hc])), List.length_cons, Nat.succ_mul]; omega

/-- v reads as the elements cs (each of sz cells). -/
def World.reads (w : World) (sz : Nat) (v : Value) (cs : List (List Value)) : Prop :=
  (v = .slice none 0 0 ∧ cs = []) ∨ ∃ g off cap, v = .slice (some ⟨g, off, none⟩) cs.length cap ∧ g < w.heap.size ∧ ∀ i c, cs[i]? = some c → c.length = sz ∧ w.rangeAt g (off + i * sz) c
theorem World.reads.keep {w w' : World} {sz : Nat} {v : Value} {cs : List (List Value)} (h : w.reads sz v cs) (hk : ∀ k, v.ownBlock = some k → w'.heap[k]? = w.heap[k]?) : w'.reads sz v cs := by
  rcases h with h | ⟨g, off, cap, rfl, hg, hc⟩
  · exact .inl h
  · have hb := hk g rfl
    refine .inr ⟨g, off, cap, rfl, ?_, fun i c hi => ⟨(hc i c hi).1, fun j v hj => ?_⟩⟩
    · rw [Array.getElem?_eq_getElem hg] at hb
      exact (Array.getElem?_eq_some_iff.1 hb).1
    · rw [World.cell?_of_block (w := w) hb]; exact (hc i c hi).2 j v hj
theorem World.reads.len {w : World} {sz : Nat} {v : Value} {cs : List (List Value)} (h : w.reads sz v cs) : ∃ a cap, v = .slice a cs.length cap := by
  rcases h with ⟨rfl, rfl⟩ | ⟨g, off, cap, rfl, _⟩
  · exact ⟨_, _, rfl⟩
  · exact ⟨_, _, rfl⟩
theorem reads_own {w : World} {base : Nat} {e : TypeId} {sz : Nat} {v : Value} {cs : List (List Value)} (h : w.ownsRow base e sz v cs.length cs.flatten) (hs : ∀ c ∈ cs, c.length = sz) : w.reads sz v cs := by
  rcases h.2 with ⟨h1, h2⟩ | ⟨g, cap, cur, rfl, hg, hb, r⟩
  · exact .inl ⟨h1, List.eq_nil_of_length_eq_zero h2⟩
  · have hc := World.ownsRow.cells h (g := g) rfl
    refine .inr ⟨g, 0, cap, rfl, (Array.getElem?_eq_some_iff.1 hb).1, fun i c hi => ⟨hs c (List.mem_of_getElem? hi), fun j v hj => ?_⟩⟩
    have hl := hs c (List.mem_of_getElem? hi)
    have hj' : j < sz := by rw [← hl]; exact (List.getElem?_eq_some_iff.1 hj).1
    have := hc (i * sz + j) v (by rw [flatten_at sz cs i c hs hi j hj']; exact hj)
    rw [Addr.add_lit] at this
    rw [Nat.zero_add] at *
    exact this
theorem drewN_range {w : World} {b o : Nat} {cs : List Value} (h : w.rangeAt b o cs) (n : Nat) : (w.drewN n).rangeAt b o cs := h

/-! ### Lists that are owned -/
def World.ownL (w : World) (e : TypeId) (sz : Nat) (v : Value) (cs : List (List Value)) : Prop := w.ownsRow 0 e sz v cs.length cs.flatten ∧ ∀ c ∈ cs, c.length = sz
theorem World.ownL.nil (w : World) (e : TypeId) (sz : Nat) : w.ownL e sz (.slice none 0 0) [] := ⟨World.ownsRow_nil w 0 e sz, fun _ h => by cases h⟩
theorem World.ownL.lt {w : World} {e : TypeId} {sz : Nat} {v : Value} {cs : List (List Value)} (h : w.ownL e sz v cs) {k : Nat} (hk : v.ownBlock = some k) : k < w.heap.size := (World.ownsRow.lt h.1 k hk).2
theorem World.ownL.keep {w w' : World} {e : TypeId} {sz : Nat} {v : Value} {cs : List (List Value)} (h : w.ownL e sz v cs) (hh : ∀ k, v.ownBlock = some k → w'.heap[k]? = w.heap[k]?) : w'.ownL e sz v cs := by
  refine ⟨⟨h.1.1, ?_⟩, h.2⟩
  rcases h.1.2 with h2 | ⟨g, cap, cur, hv, hg, hb, r⟩
  · exact .inl h2
  · exact .inr ⟨g, cap, cur, hv, hg, by rw [hh g (by rw [hv]; rfl)]; exact hb, r⟩
theorem World.ownL.alloc {w : World} {e : TypeId} {sz : Nat} {v : Value} {cs : List (List Value)} (h : w.ownL e sz v cs) (o : Obj) : (w.alloc o).ownL e sz v cs := h.keep fun k hk => Below.heap_alloc _ _ _ (h.lt hk)
theorem World.ownL.ext {w : World} {e : TypeId} {sz : Nat} {v : Value} {cs : List (List Value)} (h : w.ownL e sz v cs) (x : Grow) : (w.ext x).ownL e sz v cs := h.keep fun k hk => (Below.of_ext w x).block k (h.lt hk)
theorem World.ownL.drew {w : World} {e : TypeId} {sz : Nat} {v : Value} {cs : List (List Value)} (h : w.ownL e sz v cs) : w.drew.ownL e sz v cs := h
theorem World.ownL.drewN {w : World} {e : TypeId} {sz : Nat} {v : Value} {cs : List (List Value)} (h : w.ownL e sz v cs) (n : Nat) : (w.drewN n).ownL e sz v cs := h
theorem World.ownL.set {w : World} {e : TypeId} {sz : Nat} {v : Value} {cs : List (List Value)} (h : w.ownL e sz v cs) {p : Addr} (hp : v.ownBlock ≠ some p.block) (u : Value) : (w.setCell p u).ownL e sz v cs :=
  h.keep fun k hk => Below.heap_setCell _ _ _ _ fun e => hp (by rw [hk, e])
theorem World.ownL.reads {w : World} {e : TypeId} {sz : Nat} {v : Value} {cs : List (List Value)} (h : w.ownL e sz v cs) : w.reads sz v cs := reads_own h.1 h.2
theorem World.ownL.len {w : World} {e : TypeId} {sz : Nat} {v : Value} {cs : List (List Value)} (h : w.ownL e sz v cs) : ∃ a cap, v = .slice a cs.length cap := h.reads.len
theorem World.ownL.grew {w w' : World} {e : TypeId} {sz : Nat} {v u u' : Value} {cs : List (List Value)} (h : w.ownL e sz v cs) (hg : Grew w w' u u') (hne : ∀ k, v.ownBlock = some k → u.ownBlock ≠ some k) : w'.ownL e sz v cs :=
  h.keep fun k hk => hg.keep (h.lt hk) (hne k hk)
theorem set_flatten {α : Type} (sz : Nat) : ∀ (cs : List (List α)) (i : Nat) (c : List α), (∀ c ∈ cs, c.length = sz) → c.length = sz → i < cs.length → cs.flatten.take (i * sz) ++ c ++ cs.flatten.drop (i * sz + sz) = (cs.set i c).flatten
  | [], i, c, _, _, h => by simp at h
  | x :: xs, 0, c, hs, hc, _ => by
    have hx := hs x (by simp)
    rw [List.set_cons_zero, List.flatten_cons, List.flatten_cons, Nat.zero_mul, List.take_zero, List.nil_append, Nat.zero_add, List.drop_append_of_le_length (by omega), List.drop_of_length_le (by omega), List.nil_append]
  | x :: xs, i + 1, c, hs, hc, h => by
    have hx := hs x (by simp)
    have ih := set_flatten sz xs i c (fun c hc => hs c (by simp [hc])) hc (by simpa using h)
    rw [List.set_cons_succ, List.flatten_cons, List.flatten_cons, ← ih, show (i + 1) * sz = x.length + i * sz by rw [Nat.succ_mul]; omega, List.take_length_add_append, show x.length + i * sz + sz = x.length + (i * sz + sz) by omega, List.drop_length_add_append]
    simp [List.append_assoc]
theorem take_splice {α : Type} (l c : List α) (a N sz : Nat) (hc : c.length = sz) (h : a + sz ≤ N) (hl : N ≤ l.length) : (l.take a ++ c ++ l.drop (a + c.length)).take N = (l.take N).take a ++ c ++ (l.take N).drop (a + sz) := by
  obtain ⟨p, q, rfl, hp⟩ : ∃ p q, l = p ++ q ∧ p.length = N := ⟨l.take N, l.drop N, (List.take_append_drop N l).symm, by rw [List.length_take]; omega⟩
  subst hp hc
  have e1 : (p ++ q).take a = p.take a := List.take_append_of_le_length (by omega)
  have e2 : (p ++ q).drop (a + c.length) = p.drop (a + c.length) ++ q := List.drop_append_of_le_length (by omega)
  rw [e1, e2, List.take_left, ← List.append_assoc]
  refine (List.take_append_of_le_length ?_).trans (List.take_of_length_le ?_) <;> (simp only [List.length_append, List.length_take, List.length_drop]; omega)
theorem mul_lt_of_lt (i n sz : Nat) (h : i < n) : i * sz + sz ≤ n * sz := by rw [← Nat.succ_mul]; exact Nat.mul_le_mul_right _ h
/-- A store at the i-th element of what is owned. -/
theorem World.ownL.store {w : World} {e : TypeId} {sz : Nat} {v : Value} {cs : List (List Value)} (h : w.ownL e sz v cs) {i : Nat} (hi : i < cs.length) {c : List Value} (hc : c.length = sz) :
    ∃ g cap cur, v = .slice (some ⟨g, 0, none⟩) cs.length cap ∧ w.heap[g]? = some (.cells cur e (0, 0)) ∧ i * sz + c.length ≤ cur.size ∧
      (w.setRow g (cur.toList.take (i * sz) ++ c ++ cur.toList.drop (i * sz + c.length)).toArray).ownL e sz v (cs.set i c) ∧ Grew w (w.setRow g (cur.toList.take (i * sz) ++ c ++ cur.toList.drop (i * sz + c.length)).toArray) v v := by
  rcases h.1.2 with ⟨_, h2⟩ | ⟨g, cap, cur, rfl, hg, hb, r1, r2, r3, r4⟩
  · omega
  · have hle := mul_lt_of_lt i cs.length sz hi
    have hlec : cs.length * sz ≤ cap * sz := Nat.mul_le_mul_right _ r1
    refine ⟨g, cap, cur, rfl, hb, by omega, ⟨⟨?_, .inr ⟨g, cap, _, by rw [List.length_set], hg, setRow_heap w g cur _ e _ hb, by rw [List.length_set]; exact r1, r2, ?_, ?_⟩⟩, ?_⟩, ⟨⟨rfl, rfl, rfl, by simp [World.setRow], fun k hk hne => setRow_other w g k _ (fun e => hne (by simp [Value.ownBlock, e]))⟩, .inl rfl⟩⟩
    · rw [flatten_len sz _ (fun x hx => ?_), List.length_set]
      rcases List.mem_or_eq_of_mem_set hx with hx | rfl
      · exact h.2 x hx
      · exact hc
    · simp only [List.size_toArray, List.length_append, List.length_take, List.length_drop, Array.length_toList]; omega
    · rw [List.length_set, ← set_flatten sz cs i c h.2 hc hi, ← r4]
      have hcl : cur.toList.length = cap * sz := by rw [Array.length_toList]; exact r3
      exact take_splice _ c (i * sz) (cs.length * sz) sz hc (by omega) (by omega)
    · intro x hx
      rcases List.mem_or_eq_of_mem_set hx with hx | rfl
      · exact h.2 x hx
      · exact hc
theorem run_storeVar_rowL {P : Program} (w : World) (g o : Nat) (ty t : TypeId) (cur cells : Array Value) (hg : w.heap[g]? = some (.cells cur t (0, 0))) (ho : o + cells.size ≤ cur.size) (hi : (P.info? ty).map (·.size) = some cells.size) (h1 : ∀ u ∈ cells.toList, u.oneCell' = true) :
    (storeVar ty ⟨g, o, none⟩ (.agg cells)).run P w = .ok () (w.setRow g (cur.toList.take o ++ cells.toList ++ cur.toList.drop (o + cells.toList.length)).toArray) := by
  have hst := run_storeCells_at P g o t cells.toList 0 cur w hg (by simpa using ho) h1
  cases hq : P.info? ty with
  | none => simp [hq] at hi
  | some i =>
    have hs : cells.size = i.size := by simp [hq] at hi; omega
    simp only [Nat.add_zero] at hst
    simp [storeVar, sizeOf, typeInfo, hq, Value.cells, hs, hst]
/-- 'l[i] = x' at what is owned: at the store. -/
theorem wpL_store {P : Program} {w : World} {ops : Array Oper} {rest : List Oper} {op : Oper} {a : Act} {Q : Exit → Act → World → Prop} (hgd : op.guard = none) (ty : TypeId) (x y : Operand) (ho : op.op = .store ty x y)
    (e : TypeId) (sz : Nat) (v : Value) (cs : List (List Value)) (hown : w.ownL e sz v cs) (i : Nat) (hi : i < cs.length) (g n cap : Nat) (hv : v = .slice (some ⟨g, 0, none⟩) n cap) (o : Nat) (hx : a.eval x = .pointer (some ⟨g, o, none⟩)) (hoi : o = i * sz) (cells : Array Value) (hy : a.eval y = .agg cells)
    (hsz : (P.info? ty).map (·.size) = some sz) (hcl : cells.size = sz) (h1 : ∀ u ∈ cells.toList, u.oneCell' = true)
    (h : ∀ w', w'.ownL e sz v (cs.set i cells.toList) → Grew w w' v v → wpList P ops Q rest (a.put op.dst undef) w') : wpList P ops Q (op :: rest) a w := by
  refine wpList_plain hgd fun _ hK => ?_
  obtain ⟨g', cap', cur, hv', hb, hle, h2, h3⟩ := hown.store (i := i) hi (c := cells.toList) (by simpa using hcl)
  have hgg : g' = g := by rw [hv] at hv'; injection hv' with h; injection h with h; injection h with h; exact h.symm
  subst hgg
  subst hoi
  unfold Oper.wp execOp
  simp only [ho, hx, hy, Instr.storeAt, Instr.sureAddr, Sem.run_bind, Sem.run_pure, Result.andThen_ok, run_storeVar_rowL w g' (i * sz) ty e cur cells hb (by simpa using hle) (by rw [hsz, hcl]) h1]
  exact hK _ _ (h _ h2 h3)
/-- append, out of whatever source, to what is owned. -/
theorem run_append_grew2 {P : Program} (w : World) (base : Nat) (t tx ty e : TypeId) (i : TypeInfo) (z : Value) (ht : P.underlying t = some (.slice e)) (hi : P.info? e = some i) (hz : i.zero = some z)
    (hzs : z.cells.size = i.size) (hsz : 0 < i.size) (v : Value) (n : Nat) (xs : List Value) (hown : w.ownsRow base e i.size v n xs)
    (x : Value) (m : Nat) (news : List Value) (hs : Src P i.size tx x m news w) (h63 : n + m ≤ maxLen) (hbytes : (n + m) * i.bytes ≤ 140737488355328) (hbase : base ≤ w.heap.size) :
    ∃ v' w', (Builtin.append_ #[t, tx] ty #[v, x]).run P w = .ok v' w' ∧ w'.ownsRow base e i.size v' (n + m) (xs ++ news) ∧ Grew w w' v v' ∧ (v'.ownBlock = v.ownBlock ∨ Below w.heap.size w w') := by
  have hsmall : n + m ≤ 9223372036854775807 := by simp only [maxLen] at h63; omega
  have hl := hs.newsLen
  have hlen : (xs ++ news).length = (n + m) * i.size := by rw [List.length_append, hown.1, hl, Nat.add_mul]
  have grown : ∀ (old : Nat), old < n + m →
      (w.drew.alloc (.cells ((xs ++ news).toArray ++ Builtin.zeroCells z.cells (grownCap w (n + m) old e - (n + m))) e)).ownsRow base e i.size
        (.slice (some ⟨w.heap.size, 0, none⟩) (n + m) (grownCap w (n + m) old e)) (n + m) (xs ++ news) := by
    intro old ho
    have hge := grownCap_ge w (n + m) old e
    have hcm : grownCap w (n + m) old e ≤ maxLen := grownCap_le_maxLen w (n + m) old e h63
    refine ⟨hlen, .inr ⟨w.heap.size, _, _, rfl, hbase, heap_alloc_new w.drew _, hge, hcm, ?_, ?_⟩⟩
    · simp only [Array.size_append, List.size_toArray, zeroCells_size, hzs, hlen, ← Nat.add_mul]
      congr 1
      omega
    · rw [Array.toList_append, ← hlen]
      exact List.take_left
  have gr : ∀ (o : Obj) (v' : Value), v'.ownBlock = some w.heap.size → Grew w (w.drew.alloc o) v v' := fun o v' hv' =>
    ⟨⟨rfl, rfl, rfl, by simp, fun k hk _ => Below.heap_alloc w.drew o k hk⟩, .inr fun k hk => by rw [hv'] at hk; cases hk; exact Nat.le_refl _⟩
  rcases hown.2 with ⟨rfl, rfl⟩ | ⟨g, cap, cur, rfl, hbg, hg, hnc, hcm, hcs, htake⟩
  · have hx : xs = [] := List.eq_nil_of_length_eq_zero (by simpa using hown.1)
    subst hx
    by_cases hm : m = 0
    · subst hm
      have hn : news = [] := List.eq_nil_of_length_eq_zero (by simpa using hl)
      subst hn
      exact ⟨.slice none 0 0, w, run_append_nothing w t tx ty e i ht hi none 0 0 (Nat.le_refl _) x hs, World.ownsRow_nil w base e i.size, Grew.refl _ _, .inl rfl⟩
    · have hr := run_append_grow_src (P := P) w t tx ty e i z ht hi hz none 0 0 [] (by simp [Builtin.firstCells]) x m news hs (by omega) (by omega) (growslice_fits (by omega) (by simpa using hbytes))
      refine ⟨_, _, hr, ?_, gr _ _ rfl, .inr (((Below.refl _ _).drew).alloc (Nat.le_refl _) _)⟩
      have := grown 0 (by omega)
      simpa using this
  · by_cases hroom : n + m ≤ cap
    · have hfit : n * i.size + news.length ≤ cur.size := by rw [hl, hcs, ← Nat.add_mul]; exact Nat.mul_le_mul_right _ hroom
      have hst := run_storeCells_at P g (n * i.size) e news 0 cur w hg (by simpa using hfit) hs.one
      simp only [Nat.add_zero] at hst
      have hr : (Builtin.append_ #[t, tx] ty #[.slice (some ⟨g, 0, none⟩) n cap, x]).run P w = .ok (.slice (some ⟨g, 0, none⟩) (n + m) cap) (w.setRow g (cur.toList.take (n * i.size) ++ news ++ cur.toList.drop (n * i.size + news.length)).toArray) := by
        rcases hs.kind with ⟨e', hk⟩ | hk <;> simp [Builtin.append_, run_underlying ht, run_underlying hk, sizeOf, typeInfo, hi, hs.len, hroom, hs.cells, Addr.add_lit, hst]
      refine ⟨_, _, hr, ⟨hlen, .inr ⟨g, cap, _, rfl, hbg, setRow_heap w g cur _ e _ hg, hroom, hcm, ?_, ?_⟩⟩, ⟨⟨rfl, rfl, rfl, by simp, fun k hk hne => setRow_other w g k _ (fun e => hne (by simp [Value.ownBlock, e]))⟩, .inl rfl⟩, .inl rfl⟩
      · simp only [List.size_toArray, List.length_append, List.length_take, List.length_drop, Array.length_toList]
        omega
      · rw [htake, ← hlen]
        exact List.take_left
    · have holds : ∀ j u, xs[j]? = some u → w.cell? ((⟨g, 0, none⟩ : Addr).add j) = some u := hown.cells (g := g) rfl
      have hr := run_append_grow_src (P := P) w t tx ty e i z ht hi hz (some ⟨g, 0, none⟩) n cap xs (run_firstCells_some w.drew i.size n ⟨g, 0, none⟩ n cap xs hown.1 (by simpa using holds)) x m news hs (by omega) (by omega) (growslice_fits (by omega) hbytes)
      exact ⟨_, _, hr, grown cap (by omega), gr _ _ rfl, .inr (((Below.refl _ _).drew).alloc (Nat.le_refl _) _)⟩

/-- 'append(l, x)' to what is owned, x in a new block. -/
theorem wpL_new {P : Program} {w : World} {ops : Array Oper} {rest : List Oper} {o : Oper} {a : Act} {Q : Exit → Act → World → Prop} (hgd : o.guard = none) (sl xo : Operand) (t : TypeId)
    (ho : o.op = .call { callee := .builtin .append, args := #[sl, xo], argTypes := #[t, t] }) (e : TypeId) (sz by_ : Nat) (z : Value) (ht : P.underlying t = some (.slice e)) (hinfo : (P.info? e).map (fun i => (i.zero, i.size, i.bytes)) = some (some z, sz, by_)) (hz : z.cells.size = sz) (hsz : 0 < sz)
    (v : Value) (cs : List (List Value)) (hv : a.eval sl = v) (hown : w.ownL e sz v cs)
    (c : Array Value) (b : Nat) (hx : a.eval xo = .slice (some ⟨b, 0, none⟩) 1 1) (hc : w.heap[b]? = some (.cells c e)) (hcl : c.size = sz) (h1 : ∀ u ∈ c.toList, u.oneCell' = true) (hlen : cs.length + 1 ≤ maxLen) (hby : (cs.length + 1) * by_ ≤ 140737488355328)
    (h : ∀ a' cap' w', w'.ownL e sz (.slice a' (cs.length + 1) cap') (cs ++ [c.toList]) → Grew w w' v (.slice a' (cs.length + 1) cap') → ((Value.slice a' (cs.length + 1) cap').ownBlock = v.ownBlock ∨ Below w.heap.size w w') → wpList P ops Q rest (a.put o.dst (.slice a' (cs.length + 1) cap')) w') : wpList P ops Q (o :: rest) a w := by
  obtain ⟨i, hi, hz', h1', hb⟩ := info_parts hinfo
  refine wpList_plain hgd fun K hK => ?_
  obtain ⟨v', w', hr, h2, h3, h4⟩ := run_append_grew2 (P := P) w 0 t t o.type e i z ht hi hz' (by rw [h1']; exact hz) (by omega) v cs.length cs.flatten (by rw [h1']; exact hown.1) (.slice (some ⟨b, 0, none⟩) 1 1) 1 c.toList
    (by rw [h1']; exact Src.ofSlice w ht _ 1 1 _ (by simp [hcl]) (fun j u hj => by rw [Addr.add_lit]; simp only [World.cell?, hc, Nat.zero_add]; simpa using hj) h1) hlen (by rw [hb]; exact hby) (Nat.zero_le _)
  have hl : w'.ownL e sz v' (cs ++ [c.toList]) := by
    refine ⟨?_, fun x hx => ?_⟩
    · rw [← h1', List.length_append, List.flatten_append]; simpa using h2
    · rcases List.mem_append.1 hx with hx | hx
      · exact hown.2 x hx
      · rw [List.mem_singleton.1 hx]; simpa using hcl
  obtain ⟨a', cap', hv'⟩ := hl.len
  rw [List.length_append, List.length_singleton] at hv'
  subst hv'
  unfold Oper.wp execOp
  simp only [ho, resolve, invoke, builtin, Sem.run_bind, Sem.run_pure, Result.andThen_ok, List.map_toArray, List.map_cons, List.map_nil, hv, hx, hr]
  exact hK _ _ (h _ _ _ hl h3 h4)
theorem World.ownL.off0 {w : World} {e : TypeId} {sz n cap : Nat} {a : Option Addr} {cs : List (List Value)} (h : w.ownL e sz (.slice a n cap) cs) {g : Nat} (hg : (Value.slice a n cap).ownBlock = some g) : a = some ⟨g, 0, none⟩ ∧ n = cs.length := by
  rcases h.1.2 with ⟨h1, h2⟩ | ⟨g', cap', cur, h1, _⟩
  · rw [h1] at hg; cases hg
  · injection h1 with h1 h2 h3
    subst h1
    cases hg
    exact ⟨rfl, h2⟩
theorem World.ownL.prefix {w : World} {e : TypeId} {sz m capx : Nat} {v : Value} {cs : List (List Value)} (h : w.ownL e sz v cs) {g : Nat} (hg : v.ownBlock = some g) (hm : m ≤ cs.length) : w.reads sz (.slice (some ⟨g, 0, none⟩) m capx) (cs.take m) := by
  rcases h.reads with ⟨rfl, _⟩ | ⟨g', off, cap, rfl, hlt, hc⟩
  · cases hg
  · cases hg
    have h0 : off = 0 := by
      have := (h.off0 (g := g') rfl).1
      injection this with this; injection this
    subst h0
    refine .inr ⟨g', 0, capx, by rw [List.length_take, Nat.min_eq_left hm], hlt, fun i c hi => ?_⟩
    have him : i < m := by have := (List.getElem?_eq_some_iff.1 hi).1; rw [List.length_take] at this; omega
    rw [List.getElem?_take_of_lt him] at hi
    exact hc i c hi

/-! ### What has turned: a set of blocks -/
structure World.turned (w w' : World) (S : Nat → Prop) : Prop where
  os : w'.os = w.os
  tape : w'.tape = w.tape
  output : w'.output = w.output
  size : w.heap.size ≤ w'.heap.size
  block : ∀ k, k < w.heap.size → ¬ S k → w'.heap[k]? = w.heap[k]?
theorem World.turned.refl (w : World) (S : Nat → Prop) : w.turned w S := ⟨rfl, rfl, rfl, Nat.le_refl _, fun _ _ _ => rfl⟩
theorem World.turned.mono {w w' : World} {S S' : Nat → Prop} (h : w.turned w' S) (hs : ∀ k, k < w.heap.size → S k → S' k) : w.turned w' S' := ⟨h.os, h.tape, h.output, h.size, fun k hk hn => h.block k hk fun hS => hn (hs k hk hS)⟩
theorem World.turned.trans {w w1 w2 : World} {S S' : Nat → Prop} (h : w.turned w1 S) (h' : w1.turned w2 S') (hs : ∀ k, k < w.heap.size → S' k → S k) : w.turned w2 S :=
  ⟨h'.os.trans h.os, h'.tape.trans h.tape, h'.output.trans h.output, Nat.le_trans h.size h'.size, fun k hk hn => (h'.block k (Nat.lt_of_lt_of_le hk h.size) fun hS => hn (hs k hk hS)).trans (h.block k hk hn)⟩
theorem World.turned.of_below {w w' : World} (h : Below w.heap.size w w') (S : Nat → Prop) : w.turned w' S := ⟨h.os, h.tape, h.output, h.size, fun k hk _ => h.block k hk⟩
theorem World.turned.below {w w' : World} {S : Nat → Prop} (h : w.turned w' S) (hs : ∀ k, k < w.heap.size → ¬ S k) : Below w.heap.size w w' := ⟨h.os, h.tape, h.output, h.size, fun k hk => h.block k hk (hs k hk)⟩
theorem World.turned.of_grew {w w' : World} {v v' : Value} (h : Grew w w' v v') : w.turned w' (fun k => v.ownBlock = some k) := ⟨h.g.os, h.g.tape, h.g.output, h.g.size, fun k hk hn => h.g.block k hk fun e => hn e.symm⟩
theorem World.turned.of_grown {w w' : World} {r : Option Nat} (h : w.grownBy w' r) : w.turned w' (fun k => r = some k) := ⟨h.os, h.tape, h.output, h.size, fun k hk hn => h.block k hk fun e => hn e.symm⟩
theorem World.turned.alloc {w w' : World} {S : Nat → Prop} (h : w.turned w' S) (o : Obj) : w.turned (w'.alloc o) S := ⟨h.os, h.tape, h.output, by simp; exact Nat.le_succ_of_le h.size, fun k hk hn => by rw [Below.heap_alloc _ _ _ (by have := h.size; omega), h.block k hk hn]⟩
theorem World.turned.ext {w w' : World} {S : Nat → Prop} (h : w.turned w' S) (x : Grow) : w.turned (w'.ext x) S := h.trans (.of_below (Below.of_ext w' x) fun _ => False) fun _ _ h => h.elim
theorem World.turned.drew {w w' : World} {S : Nat → Prop} (h : w.turned w' S) : w.turned w'.drew S := ⟨h.os, h.tape, h.output, h.size, h.block⟩
theorem World.turned.drewN {w w' : World} {S : Nat → Prop} (h : w.turned w' S) (n : Nat) : w.turned (w'.drewN n) S := ⟨h.os, h.tape, h.output, h.size, h.block⟩
theorem World.turned.set {w w' : World} {S : Nat → Prop} (h : w.turned w' S) {p : Addr} (hp : p.block < w.heap.size → S p.block) (u : Value) : w.turned (w'.setCell p u) S :=
  ⟨h.os, h.tape, h.output, by simpa using h.size, fun k hk hn => by rw [Below.heap_setCell _ _ _ _ (fun e => by subst e; exact hn (hp hk)), h.block k hk hn]⟩
theorem World.turned.grew {w w1 w2 : World} {S : Nat → Prop} {v v' : Value} (h : w.turned w1 S) (hg : Grew w1 w2 v v') (hv : ∀ k, k < w.heap.size → v.ownBlock = some k → S k) : w.turned w2 S := h.trans (.of_grew hg) fun k hk he => hv k hk he
end Go
