/- The law's book of lists that came out. -/
import Derived.Test.YtcbbnmodjnnbeaaLists
set_option linter.unusedSimpArgs false
set_option linter.unusedVariables false
namespace Go
open Go.RowKit

/-- A list that came out, as the book has it: the slice, its length, its mark. -/
structure Ent where
  v : Value
  n : Nat
  k : Nat
def Ent.row (e : Ent) : List Value := [e.v, .int .i64 e.k]
structure Outs (w : World) (ot : TypeId) (sz : Nat) (mk : Nat → List Value) (bp : Nat) (vb : Value) (es : List Ent) : Prop where
  own : w.ownL ot 2 vb (es.map Ent.row)
  rd : ∀ e ∈ es, w.reads sz e.v (List.replicate e.n (mk e.k))
  nb : vb.ownBlock ≠ some bp
  apart : ∀ e ∈ es, ∀ k, e.v.ownBlock = some k → k ≠ bp ∧ vb.ownBlock ≠ some k
/-- The blocks that it stands on. -/
def footE (vb : Value) (es : List Ent) (k : Nat) : Prop := vb.ownBlock = some k ∨ ∃ e ∈ es, e.v.ownBlock = some k
theorem reads_lt {w : World} {sz : Nat} {v : Value} {cs : List (List Value)} (h : w.reads sz v cs) {k : Nat} (hk : v.ownBlock = some k) : k < w.heap.size := by
  rcases h with ⟨rfl, _⟩ | ⟨g, off, cap, rfl, hg, _⟩
  · cases hk
  · cases hk; exact hg
theorem Outs.foot_lt {w : World} {ot : TypeId} {sz : Nat} {mk : Nat → List Value} {bp : Nat} {vb : Value} {es : List Ent} (h : Outs w ot sz mk bp vb es) {k : Nat} (hk : footE vb es k) : k < w.heap.size := by
  rcases hk with hk | ⟨e, he, hk⟩
  · exact h.own.lt hk
  · exact reads_lt (h.rd e he) hk
theorem Outs.keep {w w' : World} {ot : TypeId} {sz : Nat} {mk : Nat → List Value} {bp : Nat} {vb : Value} {es : List Ent} (h : Outs w ot sz mk bp vb es) (hh : ∀ k, footE vb es k → w'.heap[k]? = w.heap[k]?) : Outs w' ot sz mk bp vb es :=
  ⟨h.own.keep fun k hk => hh k (.inl hk), fun e he => (h.rd e he).keep fun k hk => hh k (.inr ⟨e, he, hk⟩), h.nb, h.apart⟩
theorem Outs.turned {w w' : World} {ot : TypeId} {sz : Nat} {mk : Nat → List Value} {bp : Nat} {vb : Value} {es : List Ent} {S : Nat → Prop} (h : Outs w ot sz mk bp vb es) (ht : w.turned w' S) (hS : ∀ k, footE vb es k → ¬ S k) : Outs w' ot sz mk bp vb es :=
  h.keep fun k hk => ht.block k (h.foot_lt hk) (hS k hk)
theorem Outs.foot_bp {w : World} {ot : TypeId} {sz : Nat} {mk : Nat → List Value} {bp : Nat} {vb : Value} {es : List Ent} (h : Outs w ot sz mk bp vb es) {k : Nat} (hk : footE vb es k) : k ≠ bp := by
  rcases hk with hk | ⟨e, he, hk⟩
  · intro e; exact h.nb (e ▸ hk)
  · exact (h.apart e he k hk).1
theorem Outs.nil (w : World) (ot : TypeId) (sz : Nat) (mk : Nat → List Value) (bp : Nat) : Outs w ot sz mk bp (.slice none 0 0) [] :=
  ⟨World.ownL.nil w ot 2, (fun e h => nomatch h), (fun h => nomatch h), (fun e h => nomatch h)⟩
theorem foot_nil (k : Nat) : ¬ footE (.slice none 0 0) [] k := by
  rintro (h | ⟨e, h, _⟩)
  · cases h
  · cases h
/-- One entry more. -/
theorem Outs.put {w w' : World} {ot : TypeId} {sz : Nat} {mk : Nat → List Value} {bp : Nat} {vb vb' : Value} {es : List Ent} (h : Outs w ot sz mk bp vb es) (hb : bp < w.heap.size) (e : Ent) (hg : Grew w w' vb vb')
    (ho : w'.ownL ot 2 vb' (es.map Ent.row ++ [e.row])) (hr : w.reads sz e.v (List.replicate e.n (mk e.k))) (ha : ∀ k, e.v.ownBlock = some k → k ≠ bp ∧ vb.ownBlock ≠ some k) : Outs w' ot sz mk bp vb' (es ++ [e]) := by
  have hold : ∀ x ∈ es ++ [e], w.reads sz x.v (List.replicate x.n (mk x.k)) ∧ ∀ k, x.v.ownBlock = some k → k ≠ bp ∧ vb.ownBlock ≠ some k := by
    intro x hx
    rcases List.mem_append.1 hx with hx | hx
    · exact ⟨h.rd x hx, h.apart x hx⟩
    · rw [List.mem_singleton.1 hx]; exact ⟨hr, ha⟩
  have hne : ∀ k, k < w.heap.size → vb.ownBlock ≠ some k → vb'.ownBlock ≠ some k := by
    intro k hk hn he
    rcases hg.own with h1 | h1
    · exact hn (h1 ▸ he)
    · have := h1 k he; omega
  refine ⟨by rw [List.map_append]; exact ho, fun x hx => ?_, hne bp hb h.nb, fun x hx k hk => ?_⟩
  · exact (hold x hx).1.keep fun k hk => hg.keep (reads_lt (hold x hx).1 hk) ((hold x hx).2 k hk).2
  · exact ⟨((hold x hx).2 k hk).1, hne k (reads_lt (hold x hx).1 hk) ((hold x hx).2 k hk).2⟩
/-- The list itself is written on, behind what the book has of it. -/
theorem Outs.under {w w' : World} {ot e : TypeId} {sz : Nat} {mk : Nat → List Value} {bp : Nat} {vb : Value} {es : List Ent} {l l' : Value} {N K : Nat} (h : Outs w ot sz mk bp vb es) (hg : Grew w w' l l') (hl : w'.ownL e sz l' (List.replicate N (mk K))) (hB : l'.ownBlock = l.ownBlock ∨ Below w.heap.size w w')
    (hs : ∀ x, l.ownBlock = some x → vb.ownBlock ≠ some x ∧ ∀ e ∈ es, e.v.ownBlock = some x → e.k = K ∧ e.n ≤ N ∧ ∃ capx, e.v = .slice (some ⟨x, 0, none⟩) e.n capx) : Outs w' ot sz mk bp vb es := by
  rcases hB with hB | hB
  · refine ⟨h.own.keep fun k hk => hg.keep (h.own.lt hk) fun hx => (hs k hx).1 hk, fun x hx => ?_, h.nb, h.apart⟩
    cases hb : x.v.ownBlock with
    | none => exact (h.rd x hx).keep fun k hk => by rw [hb] at hk; cases hk
    | some g =>
      by_cases hlg : l.ownBlock = some g
      · obtain ⟨h1, h2, capx, h3⟩ := (hs g hlg).2 x hx hb
        have := hl.prefix (m := x.n) (capx := capx) (g := g) (by rw [hB]; exact hlg) (by simpa using h2)
        rw [List.take_replicate, Nat.min_eq_left h2] at this
        rw [h1, h3]
        exact this
      · exact (h.rd x hx).keep fun k hk => by rw [hb] at hk; cases hk; exact hg.keep (reads_lt (h.rd x hx) hb) hlg
  · exact h.keep fun k hk => hB.block k (h.foot_lt hk)
theorem setCell_heapB (w : World) (q o : Nat) (v : Value) (i : Nat) : (w.setCell ⟨q, o, none⟩ v).heap[i]? = if i = q then (w.heap[i]?).map (fun x => match x with | .cells c e f => .cells (c.setIfInBounds o v) e f | x => x) else w.heap[i]? := by
  simp only [World.setCell, Array.getElem?_modify]
  by_cases h : i = q
  · subst h
    rw [if_pos rfl, if_pos rfl]
    cases w.heap[i]? with
    | none => rfl
    | some x => cases x <;> rfl
  · rw [if_neg (fun e => h e.symm), if_neg h]
theorem Outs.setBp {w : World} {ot : TypeId} {sz : Nat} {mk : Nat → List Value} {bp : Nat} {vb : Value} {es : List Ent} (h : Outs w ot sz mk bp vb es) (o : Nat) (u : Value) : Outs (w.setCell ⟨bp, o, none⟩ u) ot sz mk bp vb es :=
  h.keep fun k hk => Below.heap_setCell _ _ _ _ (h.foot_bp hk)

/-- On the way of taking a list in: l is what append has made of it; N: how many it has; K: its mark. -/
structure Owning (w wr : World) (bt e ot : TypeId) (sz : Nat) (mk : Nat → List Value) (bp : Nat) (bkc : Value → Array Value) (vb v0 : Value) (es : List Ent) (K N : Nat) (l vb' : Value) (new : List Ent) : Prop where
  bk : wr.heap[bp]? = some (.cells (bkc vb') bt)
  out : Outs wr ot sz mk bp vb' (es ++ new)
  own : wr.ownL e sz l (List.replicate N (mk K))
  sep : ∀ x, l.ownBlock = some x → x ≠ bp ∧ vb'.ownBlock ≠ some x ∧ ∀ y ∈ es ++ new, y.v.ownBlock = some x → y.k = K ∧ y.n ≤ N ∧ ∃ capx, y.v = .slice (some ⟨x, 0, none⟩) y.n capx
  foot : ∀ x, footE vb' (es ++ new) x → footE vb es x ∨ v0.ownBlock = some x ∨ w.heap.size ≤ x
  lfoot : ∀ x, l.ownBlock = some x → v0.ownBlock = some x ∨ w.heap.size ≤ x
  turned : w.turned wr (fun k => k = bp ∨ vb.ownBlock = some k ∨ v0.ownBlock = some k)
  ns : ∀ y ∈ new, y.n ≤ N ∧ y.k = K
section
variable {w wr : World} {bt e ot : TypeId} {sz : Nat} {mk : Nat → List Value} {bp : Nat} {bkc : Value → Array Value} {vb v0 : Value} {es : List Ent} {K N : Nat} {l vb' : Value} {new : List Ent}
theorem Owning.lt (h : Owning w wr bt e ot sz mk bp bkc vb v0 es K N l vb' new) : bp < wr.heap.size := (Array.getElem?_eq_some_iff.1 h.bk).1
theorem Owning.alloc (h : Owning w wr bt e ot sz mk bp bkc vb v0 es K N l vb' new) (o : Obj) : Owning w (wr.alloc o) bt e ot sz mk bp bkc vb v0 es K N l vb' new :=
  ⟨Hp.alloc h.bk o, h.out.keep fun k hk => Below.heap_alloc _ _ _ (h.out.foot_lt hk), h.own.alloc o, h.sep, h.foot, h.lfoot, h.turned.alloc o, h.ns⟩
/-- 'l = append(l, m)'. -/
theorem Owning.more {w1 : World} {l' : Value} (h : Owning w wr bt e ot sz mk bp bkc vb v0 es K N l vb' new) (hg : Grew wr w1 l l') (hl : w1.ownL e sz l' (List.replicate (N + 1) (mk K))) (hB : l'.ownBlock = l.ownBlock ∨ Below wr.heap.size wr w1) :
    Owning w w1 bt e ot sz mk bp bkc vb v0 es K (N + 1) l' vb' new := by
  have hnew : ∀ x, l'.ownBlock = some x → l.ownBlock = some x ∨ wr.heap.size ≤ x := by
    intro x hx
    rcases hg.own with h1 | h1
    · exact .inl (h1 ▸ hx)
    · exact .inr (h1 x hx)
  have hs := h.turned.size
  refine ⟨?_, ?_, hl, fun x hx => ?_, h.foot, fun x hx => ?_, h.turned.grew hg fun k hk he => ?_, fun y hy => ⟨Nat.le_succ_of_le (h.ns y hy).1, (h.ns y hy).2⟩⟩
  · rw [hg.keep h.lt fun hk => (h.sep bp hk).1 rfl]; exact h.bk
  · exact h.out.under (N := N + 1) (K := K) hg hl hB fun x hx => ⟨(h.sep x hx).2.1, fun y hy hyx => by
      obtain ⟨h1, h2, h3⟩ := (h.sep x hx).2.2 y hy hyx
      exact ⟨h1, by omega, h3⟩⟩
  · rcases hnew x hx with h1 | h1
    · obtain ⟨a1, a2, a3⟩ := h.sep x h1
      exact ⟨a1, a2, fun y hy hyx => by
        obtain ⟨b1, b2, b3⟩ := a3 y hy hyx
        exact ⟨b1, by omega, b3⟩⟩
    · have := h.lt
      refine ⟨by omega, fun he => ?_, fun y hy hyx => ?_⟩
      · have := h.out.foot_lt (.inl he); omega
      · have := h.out.foot_lt (.inr ⟨y, hy, hyx⟩); omega
  · rcases hnew x hx with h1 | h1
    · exact h.lfoot x h1
    · exact .inr (by omega)
  · rcases h.lfoot k he with h1 | h1
    · exact .inr (.inr h1)
    · omega
/-- 'b.x = append(b.x, out{l, mark})'. -/
theorem Owning.put {w1 : World} {vb2 : Value} {al : Option Addr} {cap o : Nat} (h : Owning w wr bt e ot sz mk bp bkc vb v0 es K N (.slice al N cap) vb' new) (hg : Grew wr w1 vb' vb2) (hv : w1.ownL ot 2 vb2 ((es ++ new).map Ent.row ++ [[.slice al N cap, .int .i64 K]]))
    (hset : ∀ x y, (bkc x).setIfInBounds o y = bkc y) : Owning w (w1.setCell ⟨bp, o, none⟩ vb2) bt e ot sz mk bp bkc vb v0 es K N (.slice al N cap) vb2 (new ++ [⟨.slice al N cap, N, K⟩]) := by
  have hs := h.turned.size
  have hlt := h.lt
  have hr : wr.reads sz (.slice al N cap) (List.replicate N (mk K)) := h.own.reads
  have hO : Outs w1 ot sz mk bp vb2 ((es ++ new) ++ [⟨.slice al N cap, N, K⟩]) := h.out.put hlt ⟨.slice al N cap, N, K⟩ hg hv hr fun k hk => ⟨(h.sep k hk).1, (h.sep k hk).2.1⟩
  rw [List.append_assoc] at hO
  have hnew : ∀ x, vb2.ownBlock = some x → vb'.ownBlock = some x ∨ wr.heap.size ≤ x := by
    intro x hx
    rcases hg.own with h1 | h1
    · exact .inl (h1 ▸ hx)
    · exact .inr (h1 x hx)
  have hbk : w1.heap[bp]? = some (.cells (bkc vb') bt) := by rw [hg.keep hlt h.out.nb]; exact h.bk
  have hl1 : w1.ownL e sz (.slice al N cap) (List.replicate N (mk K)) := h.own.grew hg fun k hk => (h.sep k hk).2.1
  refine ⟨?_, hO.setBp o vb2, hl1.set (fun hk => (h.sep bp hk).1 rfl) _, fun x hx => ⟨(h.sep x hx).1, fun he => ?_, fun y hy hyx => ?_⟩, fun x hx => ?_, h.lfoot, ?_, fun y hy => ?_⟩
  · rw [setCell_heapB, if_pos rfl, hbk, Option.map_some]
    show some (Obj.cells ((bkc vb').setIfInBounds o vb2) bt) = _
    rw [hset]
  · rcases hnew x he with h1 | h1
    · exact (h.sep x hx).2.1 h1
    · have := h.own.lt hx; omega
  · rw [← List.append_assoc] at hy
    rcases List.mem_append.1 hy with hy | hy
    · exact (h.sep x hx).2.2 y hy hyx
    · rw [List.mem_singleton.1 hy]
      have := (h.own.off0 hx).1
      exact ⟨rfl, Nat.le_refl _, cap, by rw [this]⟩
  · rcases hx with hx | ⟨y, hy, hyx⟩
    · rcases hnew x hx with h1 | h1
      · exact h.foot x (.inl h1)
      · exact .inr (.inr (by omega))
    · rw [← List.append_assoc] at hy
      rcases List.mem_append.1 hy with hy | hy
      · exact h.foot x (.inr ⟨y, hy, hyx⟩)
      · rw [List.mem_singleton.1 hy] at hyx
        rcases h.lfoot x hyx with h1 | h1
        · exact .inr (.inl h1)
        · exact .inr (.inr h1)
  · refine (h.turned.grew hg fun k hk he => ?_).set (fun _ => .inl rfl) _
    rcases h.foot k (.inl he) with h1 | h1 | h1
    · rcases h1 with h1 | ⟨y, hy, hyx⟩
      · exact .inr (.inl h1)
      · exact absurd he (h.out.apart y (List.mem_append_left _ hy) k hyx).2
    · exact .inr (.inr h1)
    · omega
  · rcases List.mem_append.1 hy with hy | hy
    · exact h.ns y hy
    · rw [List.mem_singleton.1 hy]; exact ⟨Nat.le_refl _, rfl⟩
end
theorem Outs.ent {w : World} {ot : TypeId} {sz : Nat} {mk : Nat → List Value} {bp : Nat} {vb : Value} {es : List Ent} (h : Outs w ot sz mk bp vb es) {i : Nat} {y : Ent} (hy : es[i]? = some y) :
    ∃ g cap, vb = .slice (some ⟨g, 0, none⟩) es.length cap ∧ g < w.heap.size ∧ w.cell? ⟨g, i * 2, none⟩ = some y.v ∧ w.cell? ⟨g, i * 2 + 1, none⟩ = some (.int .i64 y.k) := by
  have hr := h.own.reads
  rcases hr with ⟨_, h2⟩ | ⟨g, off, cap, hv, hg, hc⟩
  · have : es = [] := by simpa using h2
    subst this; simp at hy
  · have h0 : off = 0 := by
      have := (World.ownL.off0 (hv ▸ h.own) (g := g) rfl).1
      injection this with this; injection this
    subst h0
    have hc' := (hc i y.row (by rw [List.getElem?_map, hy]; rfl)).2
    rw [Nat.zero_add] at hc'
    refine ⟨g, cap, by rw [hv, List.length_map], hg, hc' 0 _ rfl, hc' 1 _ rfl⟩
theorem reads_at {w : World} {sz n : Nat} {v : Value} {c : List Value} (h : w.reads sz v (List.replicate n c)) {j : Nat} (hj : j < n) : ∃ g off cap, v = .slice (some ⟨g, off, none⟩) n cap ∧ g < w.heap.size ∧ w.rangeAt g (off + j * sz) c := by
  rcases h with ⟨_, h2⟩ | ⟨g, off, cap, hv, hg, hc⟩
  · have := congrArg List.length h2; simp at this; omega
  · rw [List.length_replicate] at hv
    exact ⟨g, off, cap, hv, hg, (hc j c (by rw [List.getElem?_replicate, if_pos hj])).2⟩
theorem range_below {w wr : World} {B b p : Nat} {c : List Value} (h : w.rangeAt b p c) (hb : Below B w wr) (hlt : b < B) : wr.rangeAt b p c := fun j v hv => by rw [hb.cell (p := ⟨b, p + j, none⟩) hlt]; exact h j v hv
end Go
