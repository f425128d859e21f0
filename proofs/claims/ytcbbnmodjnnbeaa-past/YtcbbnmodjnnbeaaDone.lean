/- The walk of the store's done and result: one command, and its session. -/
import Derived.Test.YtcbbnmodjnnbeaaAct
set_option linter.unusedSimpArgs false
set_option linter.unusedVariables false
namespace Go.Proofs.Ytcbbnmodjnnbeaa
open Go.RowKit

theorem StoreAt.grown {w w' : World} {p b : Nat} {D : DataW Value} {s : St} (h : StoreAt w p b D s) (hb : Below w.heap.size w w') : StoreAt w' p b D s :=
  ⟨by rw [hb.block p (Array.getElem?_eq_some_iff.1 h.blk).1]; exact h.blk, h.map.keep fun x hx => hb.block x (h.map.foot_lt hx), h.good, h.sz⟩
theorem StoreAt.foot_lt {w : World} {p b : Nat} {D : DataW Value} {s : St} (h : StoreAt w p b D s) {x : Nat} (hx : footS p b D x) : x < w.heap.size := by
  rcases hx with rfl | hx
  · exact (Array.getElem?_eq_some_iff.1 h.blk).1
  · exact h.map.foot_lt hx
theorem Chg.ahead {w w1 w2 : World} {p b : Nat} {D : DataW Value} {s' : St} (hb : Below w.heap.size w w1) (h : Chg w1 w2 p b D s') : Chg w w2 p b D s' := by
  obtain ⟨D', h1, h2, h3⟩ := h
  have hs := hb.size
  exact ⟨D', h1, fun x hx => (h2 x hx).imp id fun h => by omega, (World.turned.of_below hb _).trans h3 fun _ _ h => h⟩
theorem Chg.behind {w w1 w2 : World} {p b : Nat} {D : DataW Value} {s' : St} (h : Chg w w1 p b D s') (hb : Below w1.heap.size w1 w2) : Chg w w2 p b D s' := by
  obtain ⟨D', h1, h2, h3⟩ := h
  exact ⟨D', h1.grown hb, h2, h3.trans (.of_below hb fun _ => False) fun _ _ h => h.elim⟩
/-- Behind the call, blocks that were laid ahead of it may be written. -/
theorem Chg.tail {w W w1 w2 : World} {p b : Nat} {D D1 : DataW Value} {s s' : St} (h : StoreAt w p b D s) (hb : Below w.heap.size w W) (h1 : StoreAt w1 p b D1 s') (h2 : ∀ x, footM b D1 x → footM b D x ∨ W.heap.size ≤ x) (h3 : W.turned w1 (footS p b D))
    (ht : w1.turned w2 (fun x => w.heap.size ≤ x ∧ x < W.heap.size)) : Chg w w2 p b D s' := by
  have hn : ∀ x, footS p b D1 x → ¬ (w.heap.size ≤ x ∧ x < W.heap.size) := by
    intro x hx hq
    rcases hx with rfl | hx
    · have := h.foot_lt (.inl rfl); omega
    · rcases h2 x hx with hx | hx
      · have := h.foot_lt (.inr hx); omega
      · omega
  have hs := hb.size
  refine ⟨D1, ⟨?_, h1.map.turned ht fun x hx => hn x (.inr hx), h1.good, h1.sz⟩, fun x hx => (h2 x hx).imp id fun h => by omega, ((World.turned.of_below hb _).trans h3 fun _ _ h => h).trans ht fun x hx hq => by omega⟩
  rw [ht.block p (Array.getElem?_eq_some_iff.1 h1.blk).1 (hn p (.inl rfl))]; exact h1.blk
/-- What lies beside the store stays, and stays beside it. -/
theorem Chg.keep {w w' : World} {p b : Nat} {D D' : DataW Value} (h2 : ∀ x, footM b D' x → footM b D x ∨ w.heap.size ≤ x) (h3 : w.turned w' (footS p b D)) {x : Nat} (hx : x < w.heap.size) (hn : ¬ footS p b D x) : w'.heap[x]? = w.heap[x]? ∧ ¬ footS p b D' x := by
  refine ⟨h3.block x hx hn, fun h => ?_⟩
  rcases h with rfl | h
  · exact hn (.inl rfl)
  · rcases h2 x h with h | h
    · exact hn (.inr h)
    · omega

def Res.v (r : Res) : Value := .agg #[.bool r.ok, .int .i64 r.rev, .bool r.stale]
def St.done (s : St) (c : Cmd) : Res × St := (⟨(s.act c).1, (s.act c).2.rev, false⟩, (s.act c).2)
theorem storeDone (w : World) (p b : Nat) (D : DataW Value) (s : St) (h : StoreAt w p b D s) (c : Cmd) (hc : CmdBd c) :
    Calls Try.prog 120 #[.pointer (some ⟨p, 0, none⟩), (.agg #[.int .i64 c.kind, .string c.key, .string c.val, .string c.old, .int .i64 c.rev, .int .i64 c.ses, .int .i64 c.seq])] w fun e w' => e = .returned (s.done c).1.v ∧ Chg w w' p b D (s.done c).2 := by
  have H : Hid (StoreAt w p b D s) := h
  have HC : Hid (CmdBd c) := hc
  clear h hc
  go_enter Try.func120, Try.ntmps120
  go_wp2_with fail
  refine (storeAct _ p b D s (H.out.grown (by repeat (first | exact Below.refl _ _ | assumption | with_reducible refine below_drewN ?_ _ | refine Gr.ext ?_ _ | refine Gr.alloc ?_ _ | refine Gr.drew ?_ | (refine Gr.set ?_ (by first | (simp; done) | (simp; omega)) _)))) c HC.out).mono ?_
  rintro e w1 ⟨rfl, D1, h1, h2, h3⟩
  obtain ⟨c0, c1, c2, cf⟩ := st_cells h1.blk
  have hb1 : w1.heap[w.heap.size + 1]? = some (.cells #[.bool false, .int .i64 0, .bool false] 72) := (h3.block _ (by simp) fun hx => by have := H.out.foot_lt hx; omega).trans (by repeat (first | with_reducible assumption | (with_reducible refine Hp.new ?_; (first | rfl | (simp [go_sem]; done) | (simp [go_sem]; omega)); done) | with_reducible refine Hp.alloc ?_ _ | with_reducible refine Hp.ext ?_ _ | with_reducible refine Hp.drew ?_ | (with_reducible refine Hp.set ?_ (by simp; omega) _)))
  have r0 : w1.cell? ⟨w.heap.size + 1, 0, none⟩ = some (.bool false) := by simp only [World.cell?, hb1]; rfl
  have r1 : w1.cell? ⟨w.heap.size + 1, 1, none⟩ = some (.int .i64 0) := by simp only [World.cell?, hb1]; rfl
  have r2 : w1.cell? ⟨w.heap.size + 1, 2, none⟩ = some (.bool false) := by simp only [World.cell?, hb1]; rfl
  have rf : ∀ o, w1.frozen? ⟨w.heap.size + 1, o, none⟩ = false := fun o => by simp [World.frozen?, hb1]
  have hp1 : p < w1.heap.size := (Array.getElem?_eq_some_iff.1 h1.blk).1
  have hs1 : w.heap.size + 1 < w1.heap.size := (Array.getElem?_eq_some_iff.1 hb1).1
  have HG : Hid (∀ w2, w1.turned w2 (fun x => w.heap.size ≤ x ∧ x < w.heap.size + 2) → Chg w w2 p b D (s.act c).2) := fun w2 ht => Chg.tail H.out (by repeat (first | exact Below.refl _ _ | assumption | with_reducible refine below_drewN ?_ _ | refine Gr.ext ?_ _ | refine Gr.alloc ?_ _ | refine Gr.drew ?_ | (refine Gr.set ?_ (by first | (simp; done) | (simp; omega)) _))) h1 h2 h3 (ht.mono fun _ _ h => by simp; omega)
  have HB1 : Hid (w1.heap[w.heap.size + 1]? = some (.cells #[.bool false, .int .i64 0, .bool false] 72)) := hb1
  clear h1 h2 h3 hb1
  go_wp2_with fail
  refine world_any (F := fun W => W.heap[w.heap.size + 1]? = some (.cells #[.bool (s.act c).1, .int .i64 (s.act c).2.rev, .bool false] 72) ∧ w1.turned W (fun x => w.heap.size ≤ x ∧ x < w.heap.size + 2)) ⟨?_, (((World.turned.refl w1 _).set (fun _ => by simp) _).set (fun _ => by simp) _).set (fun _ => by simp) _⟩ ?_
  · rw [setCell_heapB, if_pos rfl, setCell_heapB, if_pos rfl, setCell_heapB, if_pos rfl, HB1.out]; rfl
  rintro W ⟨hW, ht⟩
  have z0 : W.cell? ⟨w.heap.size + 1, 0, none⟩ = some (.bool (s.act c).1) := by simp only [World.cell?, hW]; rfl
  have z1 : W.cell? ⟨w.heap.size + 1, 1, none⟩ = some (.int .i64 (s.act c).2.rev) := by simp only [World.cell?, hW]; rfl
  have z2 : W.cell? ⟨w.heap.size + 1, 2, none⟩ = some (.bool false) := by simp only [World.cell?, hW]; rfl
  exact bodyPost_ret (v := (s.done c).1.v) (by simp [results, Try.results120, go_sem, Res.v, St.done, z0, z1, z2]) rfl ⟨rfl, HG.out _ ht⟩
/-- A session's four cells, at 3 + i * 4. -/
def ssAt (s : St) (i : Nat) : Nat × Res := s.ss[i]?.getD (0, ⟨false, 0, false⟩)
theorem sess_at (ss : List (Nat × Res)) (i : Nat) (h : i < ss.length) (j : Nat) (hj : j < 4) : (sessCells ss)[i * 4 + j]? = [Value.int .i64 ss[i].1, .bool ss[i].2.ok, .int .i64 ss[i].2.rev, .bool ss[i].2.stale][j]? := by
  unfold sessCells
  rw [List.flatMap_def]
  refine flatten_at 4 _ i _ (fun c hc => ?_) (by rw [List.getElem?_map, List.getElem?_eq_getElem h]; rfl) j hj
  obtain ⟨x, _, rfl⟩ := List.mem_map.1 hc
  rfl
theorem st_sess {w : World} {p b : Nat} {s : St} (h : w.heap[p]? = some (.cells (s.cells b) 141)) (i : Nat) (hi : i < s.ss.length) :
    w.cell? ⟨p, 3 + i * 4, none⟩ = some (.int .i64 (ssAt s i).1) ∧ w.cell? ⟨p, 3 + i * 4 + 1, none⟩ = some (.bool (ssAt s i).2.ok) ∧ w.cell? ⟨p, 3 + i * 4 + 2, none⟩ = some (.int .i64 (ssAt s i).2.rev) ∧ w.cell? ⟨p, 3 + i * 4 + 3, none⟩ = some (.bool (ssAt s i).2.stale) := by
  have key : ∀ j, j < 4 → w.cell? ⟨p, 3 + i * 4 + j, none⟩ = [Value.int .i64 (ssAt s i).1, .bool (ssAt s i).2.ok, .int .i64 (ssAt s i).2.rev, .bool (ssAt s i).2.stale][j]? := by
    intro j hj
    have := sess_at s.ss i hi j hj
    have e : ssAt s i = s.ss[i] := by unfold ssAt; rw [List.getElem?_eq_getElem hi]; rfl
    rw [e, ← this]
    simp only [World.cell?, h, St.cells]
    show (Value.int .i64 s.rev :: .int .i64 s.floor :: .map (some b) :: sessCells s.ss).toArray[3 + i * 4 + j]? = _
    rw [List.getElem?_toArray, show 3 + i * 4 + j = (i * 4 + j) + 1 + 1 + 1 by omega, List.getElem?_cons_succ, List.getElem?_cons_succ, List.getElem?_cons_succ]
  exact ⟨key 0 (by omega), key 1 (by omega), key 2 (by omega), key 3 (by omega)⟩
theorem sess_set : ∀ (ss : List (Nat × Res)) (i : Nat) (x : Nat × Res), sessCells (ss.set i x) = ((((sessCells ss).set (i * 4) (.int .i64 x.1)).set (i * 4 + 1) (.bool x.2.ok)).set (i * 4 + 2) (.int .i64 x.2.rev)).set (i * 4 + 3) (.bool x.2.stale)
  | [], i, x => by simp [sessCells]
  | y :: ys, 0, x => by simp [sessCells]
  | y :: ys, i + 1, x => by
    have ih := sess_set ys i x
    have e : ∀ l : List (Nat × Res), sessCells (y :: l) = Value.int .i64 y.1 :: .bool y.2.ok :: .int .i64 y.2.rev :: .bool y.2.stale :: sessCells l := fun l => rfl
    have e0 : (i + 1) * 4 = i * 4 + 1 + 1 + 1 + 1 := by omega
    have e1 : i * 4 + 1 + 1 + 1 + 1 + 1 = (i * 4 + 1) + 1 + 1 + 1 + 1 := by omega
    have e2 : i * 4 + 1 + 1 + 1 + 1 + 2 = (i * 4 + 2) + 1 + 1 + 1 + 1 := by omega
    have e3 : i * 4 + 1 + 1 + 1 + 1 + 3 = (i * 4 + 3) + 1 + 1 + 1 + 1 := by omega
    rw [List.set_cons_succ, e, e, ih, e0, e2, e3]
    simp only [List.set_cons_succ]
def St.setSs (s : St) (i : Nat) (x : Nat × Res) : St := { s with ss := s.ss.set i x }
theorem cells_setSs (s : St) (b i : Nat) (x : Nat × Res) : ((((s.cells b).setIfInBounds (3 + i * 4) (.int .i64 x.1)).setIfInBounds (3 + i * 4 + 1) (.bool x.2.ok)).setIfInBounds (3 + i * 4 + 2) (.int .i64 x.2.rev)).setIfInBounds (3 + i * 4 + 3) (.bool x.2.stale) = (s.setSs i x).cells b := by
  unfold St.cells
  have e : ∀ j, 3 + i * 4 + j = (i * 4 + j) + 1 + 1 + 1 := fun j => by omega
  rw [List.setIfInBounds_toArray, List.setIfInBounds_toArray, List.setIfInBounds_toArray, List.setIfInBounds_toArray, show 3 + i * 4 = (i * 4) + 1 + 1 + 1 by omega]
  rw [show i * 4 + 1 + 1 + 1 + 1 = (i * 4 + 1) + 1 + 1 + 1 by omega, show i * 4 + 1 + 1 + 1 + 2 = (i * 4 + 2) + 1 + 1 + 1 by omega, show i * 4 + 1 + 1 + 1 + 3 = (i * 4 + 3) + 1 + 1 + 1 by omega]
  simp only [List.set_cons_succ]
  rw [← sess_set]
  rfl
theorem StoreAt.setSs {w : World} {p b : Nat} {D : DataW Value} {s : St} (h : StoreAt w p b D s) (i : Nat) (q : Nat) (r : Res) :
    StoreAt ((((w.setCell ⟨p, 3 + i * 4, none⟩ (.int .i64 q)).setCell ⟨p, 3 + i * 4 + 1, none⟩ (.bool r.ok)).setCell ⟨p, 3 + i * 4 + 2, none⟩ (.int .i64 r.rev)).setCell ⟨p, 3 + i * 4 + 3, none⟩ (.bool r.stale)) p b D (s.setSs i (q, r)) := by
  refine ⟨?_, h.map.keep fun x hx => ?_, ⟨h.good.rev, h.good.floor, h.good.asc, h.good.bd, by show (s.ss.set i _).length = 8; rw [List.length_set]; exact h.good.ss⟩, h.sz⟩
  · rw [setCell_heapB, if_pos rfl, setCell_heapB, if_pos rfl, setCell_heapB, if_pos rfl, setCell_heapB, if_pos rfl, h.blk]
    show some _ = some _
    rw [← cells_setSs]
  · have hne : x ≠ p := by
      rcases hx with rfl | ⟨k, v, hv, hx⟩
      · exact fun e => h.pb e.symm
      · exact (h.map.off k v x hv hx).2
    rw [setCell_heapB, if_neg hne, setCell_heapB, if_neg hne, setCell_heapB, if_neg hne, setCell_heapB, if_neg hne]
end Go.Proofs.Ytcbbnmodjnnbeaa
