/- The walk of the store's done and result: one command, and its session. -/
import Derived.Test.YtcbbnmodjnnbeaaAct
import Derived.Deep.DeepMust
import Derived.Test.YtcbbnmodjnnbeaaRaise
import Derived.BigQuiet
set_option linter.unusedSimpArgs false
set_option linter.unusedVariables false
namespace Go.Proofs.Ytcbbnmodjnnbeaa
open Go.RowKit

theorem StoreAt.grown {w w' : World} {p b : Nat} {D : DataW Value} {s : St} (h : StoreAt w p b D s) (hb : Below w.heap.size w w') : StoreAt w' p b D s :=
  ⟨by rw [hb.block p (Array.getElem?_eq_some_iff.1 h.blk).1]; exact h.blk, h.map.keep fun x hx => hb.block x (h.map.foot_lt hx), h.good, h.sz⟩
theorem StoreAt.foot_lt {w : World} {p b : Nat} {D : DataW Value} {s : St} (h : StoreAt w p b D s) {x : Nat} (hx : footS p b D x) : x < w.heap.size := by
  rcases hx with rfl | hx
  · exact (Array.getElem?_eq_some_iff.1 h.blk).1
  · exact h.map.foot_lt hx
theorem Chg.ahead {w w1 w2 : World} {p b : Nat} {D : DataW Value} {s' : St} (hb : Below w.heap.size w w1) (h : Chg w1 w2 p b D s') : Chg w w2 p b D s' := by
  obtain ⟨D', h1, h2, h3⟩ := h
  have hs := hb.size
  exact ⟨D', h1, fun x hx => (h2 x hx).imp id fun h => by omega, (World.turned.of_below hb _).trans h3 fun _ _ h => h⟩
theorem Chg.behind {w w1 w2 : World} {p b : Nat} {D : DataW Value} {s' : St} (h : Chg w w1 p b D s') (hb : Below w1.heap.size w1 w2) : Chg w w2 p b D s' := by
  obtain ⟨D', h1, h2, h3⟩ := h
  exact ⟨D', h1.grown hb, h2, h3.trans (.of_below hb fun _ => False) fun _ _ h => h.elim⟩
/-- Behind the call, blocks that were laid ahead of it may be written. -/
theorem Chg.tail {w W w1 w2 : World} {p b : Nat} {D D1 : DataW Value} {s s' : St} (h : StoreAt w p b D s) (hb : Below w.heap.size w W) (h1 : StoreAt w1 p b D1 s') (h2 : ∀ x, footM b D1 x → footM b D x ∨ W.heap.size ≤ x) (h3 : W.turned w1 (footS p b D))
    (ht : w1.turned w2 (fun x => w.heap.size ≤ x ∧ x < W.heap.size)) : Chg w w2 p b D s' := by
  have hn : ∀ x, footS p b D1 x → ¬ (w.heap.size ≤ x ∧ x < W.heap.size) := by
    intro x hx hq
    rcases hx with rfl | hx
    · have := h.foot_lt (.inl rfl); omega
    · rcases h2 x hx with hx | hx
      · have := h.foot_lt (.inr hx); omega
      · omega
  have hs := hb.size
  refine ⟨D1, ⟨?_, h1.map.turned ht fun x hx => hn x (.inr hx), h1.good, h1.sz⟩, fun x hx => (h2 x hx).imp id fun h => by omega, ((World.turned.of_below hb _).trans h3 fun _ _ h => h).trans ht fun x hx hq => by omega⟩
  rw [ht.block p (Array.getElem?_eq_some_iff.1 h1.blk).1 (hn p (.inl rfl))]; exact h1.blk
/-- What lies beside the store stays, and stays beside it. -/
theorem Chg.keep {w w' : World} {p b : Nat} {D D' : DataW Value} (h2 : ∀ x, footM b D' x → footM b D x ∨ w.heap.size ≤ x) (h3 : w.turned w' (footS p b D)) {x : Nat} (hx : x < w.heap.size) (hn : ¬ footS p b D x) : w'.heap[x]? = w.heap[x]? ∧ ¬ footS p b D' x := by
  refine ⟨h3.block x hx hn, fun h => ?_⟩
  rcases h with rfl | h
  · exact hn (.inl rfl)
  · rcases h2 x h with h | h
    · exact hn (.inr h)
    · omega

def Res.v (r : Res) : Value := .agg #[.bool r.ok, .int .i64 r.rev, .bool r.stale]
def St.done (s : St) (c : Cmd) : Res × St := (⟨(s.act c).1, (s.act c).2.rev, false⟩, (s.act c).2)
theorem storeDone (w : World) (p b : Nat) (D : DataW Value) (s : St) (h : StoreAt w p b D s) (c : Cmd) (hc : CmdBd c) :
    Calls Try.prog 120 #[.pointer (some ⟨p, 0, none⟩), (.agg #[.int .i64 c.kind, .string c.key, .string c.val, .string c.old, .int .i64 c.rev, .int .i64 c.ses, .int .i64 c.seq])] w fun e w' => e = .returned (s.done c).1.v ∧ Chg w w' p b D (s.done c).2 := by
  have H : Hid (StoreAt w p b D s) := h
  have HC : Hid (CmdBd c) := hc
  clear h hc
  go_enter Try.func120, Try.ntmps120
  go_wp2_with fail
  refine (storeAct _ p b D s (H.out.grown (by repeat (first | exact Below.refl _ _ | assumption | with_reducible refine below_drewN ?_ _ | refine Gr.ext ?_ _ | refine Gr.alloc ?_ _ | refine Gr.drew ?_ | (refine Gr.set ?_ (by first | (simp; done) | (simp; omega)) _)))) c HC.out).mono ?_
  rintro e w1 ⟨rfl, D1, h1, h2, h3⟩
  obtain ⟨c0, c1, c2, cf⟩ := st_cells h1.blk
  have hb1 : w1.heap[w.heap.size + 1]? = some (.cells #[.bool false, .int .i64 0, .bool false] 72) := (h3.block _ (by simp) fun hx => by have := H.out.foot_lt hx; omega).trans (by repeat (first | with_reducible assumption | (with_reducible refine Hp.new ?_; (first | rfl | (simp [go_sem]; done) | (simp [go_sem]; omega)); done) | with_reducible refine Hp.alloc ?_ _ | with_reducible refine Hp.ext ?_ _ | with_reducible refine Hp.drew ?_ | (with_reducible refine Hp.set ?_ (by simp; omega) _)))
  have r0 : w1.cell? ⟨w.heap.size + 1, 0, none⟩ = some (.bool false) := by simp only [World.cell?, hb1]; rfl
  have r1 : w1.cell? ⟨w.heap.size + 1, 1, none⟩ = some (.int .i64 0) := by simp only [World.cell?, hb1]; rfl
  have r2 : w1.cell? ⟨w.heap.size + 1, 2, none⟩ = some (.bool false) := by simp only [World.cell?, hb1]; rfl
  have rf : ∀ o, w1.frozen? ⟨w.heap.size + 1, o, none⟩ = false := fun o => by simp [World.frozen?, hb1]
  have hp1 : p < w1.heap.size := (Array.getElem?_eq_some_iff.1 h1.blk).1
  have hs1 : w.heap.size + 1 < w1.heap.size := (Array.getElem?_eq_some_iff.1 hb1).1
  have HG : Hid (∀ w2, w1.turned w2 (fun x => w.heap.size ≤ x ∧ x < w.heap.size + 2) → Chg w w2 p b D (s.act c).2) := fun w2 ht => Chg.tail H.out (by repeat (first | exact Below.refl _ _ | assumption | with_reducible refine below_drewN ?_ _ | refine Gr.ext ?_ _ | refine Gr.alloc ?_ _ | refine Gr.drew ?_ | (refine Gr.set ?_ (by first | (simp; done) | (simp; omega)) _))) h1 h2 h3 (ht.mono fun _ _ h => by simp; omega)
  have HB1 : Hid (w1.heap[w.heap.size + 1]? = some (.cells #[.bool false, .int .i64 0, .bool false] 72)) := hb1
  clear h1 h2 h3 hb1
  go_wp2_with fail
  refine world_any (F := fun W => W.heap[w.heap.size + 1]? = some (.cells #[.bool (s.act c).1, .int .i64 (s.act c).2.rev, .bool false] 72) ∧ w1.turned W (fun x => w.heap.size ≤ x ∧ x < w.heap.size + 2)) ⟨?_, (((World.turned.refl w1 _).set (fun _ => by simp) _).set (fun _ => by simp) _).set (fun _ => by simp) _⟩ ?_
  · rw [setCell_heapB, if_pos rfl, setCell_heapB, if_pos rfl, setCell_heapB, if_pos rfl, HB1.out]; rfl
  rintro W ⟨hW, ht⟩
  have z0 : W.cell? ⟨w.heap.size + 1, 0, none⟩ = some (.bool (s.act c).1) := by simp only [World.cell?, hW]; rfl
  have z1 : W.cell? ⟨w.heap.size + 1, 1, none⟩ = some (.int .i64 (s.act c).2.rev) := by simp only [World.cell?, hW]; rfl
  have z2 : W.cell? ⟨w.heap.size + 1, 2, none⟩ = some (.bool false) := by simp only [World.cell?, hW]; rfl
  exact bodyPost_ret (v := (s.done c).1.v) (by simp [results, Try.results120, go_sem, Res.v, St.done, z0, z1, z2]) rfl ⟨rfl, HG.out _ ht⟩
/-- A session's four cells, at 3 + i * 4. -/
def ssAt (s : St) (i : Nat) : Nat × Res := s.ss[i]?.getD (0, ⟨false, 0, false⟩)
theorem sess_at (ss : List (Nat × Res)) (i : Nat) (h : i < ss.length) (j : Nat) (hj : j < 4) : (sessCells ss)[i * 4 + j]? = [Value.int .i64 ss[i].1, .bool ss[i].2.ok, .int .i64 ss[i].2.rev, .bool ss[i].2.stale][j]? := by
  unfold sessCells
  rw [List.flatMap_def]
  refine flatten_at 4 _ i _ (fun c hc => ?_) (by rw [List.getElem?_map, List.getElem?_eq_getElem h]; rfl) j hj
  obtain ⟨x, _, rfl⟩ := List.mem_map.1 hc
  rfl
theorem st_sess {w : World} {p b : Nat} {s : St} (h : w.heap[p]? = some (.cells (s.cells b) 141)) (i : Nat) (hi : i < s.ss.length) :
    w.cell? ⟨p, 3 + i * 4, none⟩ = some (.int .i64 (ssAt s i).1) ∧ w.cell? ⟨p, 3 + i * 4 + 1, none⟩ = some (.bool (ssAt s i).2.ok) ∧ w.cell? ⟨p, 3 + i * 4 + 2, none⟩ = some (.int .i64 (ssAt s i).2.rev) ∧ w.cell? ⟨p, 3 + i * 4 + 3, none⟩ = some (.bool (ssAt s i).2.stale) := by
  have key : ∀ j, j < 4 → w.cell? ⟨p, 3 + i * 4 + j, none⟩ = [Value.int .i64 (ssAt s i).1, .bool (ssAt s i).2.ok, .int .i64 (ssAt s i).2.rev, .bool (ssAt s i).2.stale][j]? := by
    intro j hj
    have := sess_at s.ss i hi j hj
    have e : ssAt s i = s.ss[i] := by unfold ssAt; rw [List.getElem?_eq_getElem hi]; rfl
    rw [e, ← this]
    simp only [World.cell?, h, St.cells]
    show (Value.int .i64 s.rev :: .int .i64 s.floor :: .map (some b) :: sessCells s.ss).toArray[3 + i * 4 + j]? = _
    rw [List.getElem?_toArray, show 3 + i * 4 + j = (i * 4 + j) + 1 + 1 + 1 by omega, List.getElem?_cons_succ, List.getElem?_cons_succ, List.getElem?_cons_succ]
  exact ⟨key 0 (by omega), key 1 (by omega), key 2 (by omega), key 3 (by omega)⟩
theorem sess_set : ∀ (ss : List (Nat × Res)) (i : Nat) (x : Nat × Res), sessCells (ss.set i x) = ((((sessCells ss).set (i * 4) (.int .i64 x.1)).set (i * 4 + 1) (.bool x.2.ok)).set (i * 4 + 2) (.int .i64 x.2.rev)).set (i * 4 + 3) (.bool x.2.stale)
  | [], i, x => by simp [sessCells]
  | y :: ys, 0, x => by simp [sessCells]
  | y :: ys, i + 1, x => by
    have ih := sess_set ys i x
    have e : ∀ l : List (Nat × Res), sessCells (y :: l) = Value.int .i64 y.1 :: .bool y.2.ok :: .int .i64 y.2.rev :: .bool y.2.stale :: sessCells l := fun l => rfl
    have e0 : (i + 1) * 4 = i * 4 + 1 + 1 + 1 + 1 := by omega
    have e1 : i * 4 + 1 + 1 + 1 + 1 + 1 = (i * 4 + 1) + 1 + 1 + 1 + 1 := by omega
    have e2 : i * 4 + 1 + 1 + 1 + 1 + 2 = (i * 4 + 2) + 1 + 1 + 1 + 1 := by omega
    have e3 : i * 4 + 1 + 1 + 1 + 1 + 3 = (i * 4 + 3) + 1 + 1 + 1 + 1 := by omega
    rw [List.set_cons_succ, e, e, ih, e0, e2, e3]
    simp only [List.set_cons_succ]
def St.setSs (s : St) (i : Nat) (x : Nat × Res) : St := { s with ss := s.ss.set i x }
theorem cells_setSs (s : St) (b i : Nat) (x : Nat × Res) : ((((s.cells b).setIfInBounds (3 + i * 4) (.int .i64 x.1)).setIfInBounds (3 + i * 4 + 1) (.bool x.2.ok)).setIfInBounds (3 + i * 4 + 2) (.int .i64 x.2.rev)).setIfInBounds (3 + i * 4 + 3) (.bool x.2.stale) = (s.setSs i x).cells b := by
  unfold St.cells
  have e : ∀ j, 3 + i * 4 + j = (i * 4 + j) + 1 + 1 + 1 := fun j => by omega
  rw [List.setIfInBounds_toArray, List.setIfInBounds_toArray, List.setIfInBounds_toArray, List.setIfInBounds_toArray, show 3 + i * 4 = (i * 4) + 1 + 1 + 1 by omega]
  rw [show i * 4 + 1 + 1 + 1 + 1 = (i * 4 + 1) + 1 + 1 + 1 by omega, show i * 4 + 1 + 1 + 1 + 2 = (i * 4 + 2) + 1 + 1 + 1 by omega, show i * 4 + 1 + 1 + 1 + 3 = (i * 4 + 3) + 1 + 1 + 1 by omega]
  simp only [List.set_cons_succ]
  rw [← sess_set]
  rfl
theorem StoreAt.setSs {w : World} {p b : Nat} {D : DataW Value} {s : St} (h : StoreAt w p b D s) (i : Nat) (q : Nat) (r : Res) :
    StoreAt ((((w.setCell ⟨p, 3 + i * 4, none⟩ (.int .i64 q)).setCell ⟨p, 3 + i * 4 + 1, none⟩ (.bool r.ok)).setCell ⟨p, 3 + i * 4 + 2, none⟩ (.int .i64 r.rev)).setCell ⟨p, 3 + i * 4 + 3, none⟩ (.bool r.stale)) p b D (s.setSs i (q, r)) := by
  refine ⟨?_, h.map.keep fun x hx => ?_, ⟨h.good.rev, h.good.floor, h.good.asc, h.good.bd, by show (s.ss.set i _).length = 8; rw [List.length_set]; exact h.good.ss⟩, h.sz⟩
  · rw [setCell_heapB, if_pos rfl, setCell_heapB, if_pos rfl, setCell_heapB, if_pos rfl, setCell_heapB, if_pos rfl, h.blk]
    show some _ = some _
    rw [← cells_setSs]
  · have hne : x ≠ p := by
      rcases hx with rfl | ⟨k, v, hv, hx⟩
      · exact fun e => h.pb e.symm
      · exact (h.map.off k v x hv hx).2
    rw [setCell_heapB, if_neg hne, setCell_heapB, if_neg hne, setCell_heapB, if_neg hne, setCell_heapB, if_neg hne]
end Go.Proofs.Ytcbbnmodjnnbeaa
/- The walk of the store's result: a session's command is done once. -/
set_option linter.unusedSimpArgs false
set_option linter.unusedVariables false
namespace Go.Proofs.Ytcbbnmodjnnbeaa
open Go.RowKit

theorem Chg.after {w W w1 : World} {p b : Nat} {D : DataW Value} {s s' : St} (h : StoreAt w p b D s) (hb : Below w.heap.size w W) (hc : Chg W w1 p b D s') :
    Hid (∀ w2, w1.turned w2 (fun x => w.heap.size ≤ x ∧ x < W.heap.size) → Chg w w2 p b D s') ∧ (∀ x o, w.heap.size ≤ x → W.heap[x]? = some o → w1.heap[x]? = some o ∧ x < w1.heap.size) := by
  obtain ⟨D1, h1, h2, h3⟩ := hc
  refine ⟨fun w2 ht => Chg.tail h hb h1 h2 h3 ht, fun x o hx ho => ?_⟩
  have hlt := (Array.getElem?_eq_some_iff.1 ho).1
  exact ⟨(h3.block x hlt fun hq => by have := h.foot_lt hq; omega).trans ho, Nat.lt_of_lt_of_le hlt h3.size⟩
theorem Chg.store {w w1 : World} {p b : Nat} {D : DataW Value} {s' : St} (hc : Chg w w1 p b D s') (i : Nat) (hi : i < 8) : p < w1.heap.size ∧ (∀ o, w1.frozen? ⟨p, o, none⟩ = false) ∧ w1.cell? ⟨p, 3 + i * 4, none⟩ = some (.int .i64 (ssAt s' i).1) ∧ w1.cell? ⟨p, 3 + i * 4 + 1, none⟩ = some (.bool (ssAt s' i).2.ok) ∧ w1.cell? ⟨p, 3 + i * 4 + 2, none⟩ = some (.int .i64 (ssAt s' i).2.rev) ∧ w1.cell? ⟨p, 3 + i * 4 + 3, none⟩ = some (.bool (ssAt s' i).2.stale) := by
  obtain ⟨D1, h1, h2, h3⟩ := hc
  exact ⟨(Array.getElem?_eq_some_iff.1 h1.blk).1, (st_cells h1.blk).2.2.2, st_sess h1.blk i (by rw [h1.good.ss]; exact hi)⟩
theorem Chg.after2 {w W w6 : World} {p b : Nat} {D : DataW Value} {s s' : St} (h : StoreAt w p b D s) (hb : Below w.heap.size w W) (hn : w.heap.size + 2 ≤ W.heap.size) (hc : Chg W w6 p b D s') (i q : Nat) (r : Res) :
    Hid (∀ w2, ((((w6.setCell ⟨p, 3 + i * 4, none⟩ (.int .i64 q)).setCell ⟨p, 3 + i * 4 + 1, none⟩ (.bool r.ok)).setCell ⟨p, 3 + i * 4 + 2, none⟩ (.int .i64 r.rev)).setCell ⟨p, 3 + i * 4 + 3, none⟩ (.bool r.stale)).turned w2 (fun x => w.heap.size ≤ x ∧ x < w.heap.size + 2) → Chg w w2 p b D (s'.setSs i (q, r))) := by
  obtain ⟨D1, h1, h2, h3⟩ := hc
  intro w2 ht
  exact Chg.tail h hb (h1.setSs i q r) h2 ((((h3.set (fun _ => .inl rfl) _).set (fun _ => .inl rfl) _).set (fun _ => .inl rfl) _).set (fun _ => .inl rfl) _) (ht.mono fun _ _ hx => by omega)
theorem res_cells {W : World} {n : Nat} {r : Res} (h : W.heap[n]? = some (.cells #[.bool r.ok, .int .i64 r.rev, .bool r.stale] 72)) : W.cell? ⟨n, 0, none⟩ = some (.bool r.ok) ∧ W.cell? ⟨n, 1, none⟩ = some (.int .i64 r.rev) ∧ W.cell? ⟨n, 2, none⟩ = some (.bool r.stale) ∧ ∀ o, W.frozen? ⟨n, o, none⟩ = false := by
  refine ⟨by simp only [World.cell?, h]; rfl, by simp only [World.cell?, h]; rfl, by simp only [World.cell?, h]; rfl, fun o => by simp [World.frozen?, h]⟩
theorem Hp.drewN {w : World} {i : Nat} {x : Obj} (h : w.heap[i]? = some x) (n : Nat) : (w.drewN n).heap[i]? = some x := h
theorem res_set {W : World} {n : Nat} {r0 r : Res} (h : W.heap[n]? = some (.cells #[.bool r0.ok, .int .i64 r0.rev, .bool r0.stale] 72)) : (((W.setCell ⟨n, 0, none⟩ (.bool r.ok)).setCell ⟨n, 1, none⟩ (.int .i64 r.rev)).setCell ⟨n, 2, none⟩ (.bool r.stale)).heap[n]? = some (.cells #[.bool r.ok, .int .i64 r.rev, .bool r.stale] 72) := by
  rw [setCell_heapB, if_pos rfl, setCell_heapB, if_pos rfl, setCell_heapB, if_pos rfl, h]; rfl
theorem endRes {w6 : World} {p i n : Nat} {v0 v1 v2 v3 : Value} {r : Res} (h : w6.heap[n]? = some (.cells #[.bool false, .int .i64 0, .bool false] 72)) (hp : p ≠ n) :
    (((((((w6.setCell ⟨p, 3 + i * 4, none⟩ v0).setCell ⟨p, 3 + i * 4 + 1, none⟩ v1).setCell ⟨p, 3 + i * 4 + 2, none⟩ v2).setCell ⟨p, 3 + i * 4 + 3, none⟩ v3).setCell ⟨n, 0, none⟩ (.bool r.ok)).setCell ⟨n, 1, none⟩ (.int .i64 r.rev)).setCell ⟨n, 2, none⟩ (.bool r.stale)).heap[n]? = some (.cells #[.bool r.ok, .int .i64 r.rev, .bool r.stale] 72) :=
  res_set (r0 := ⟨false, 0, false⟩) (Hp.set (Hp.set (Hp.set (Hp.set h hp _) hp _) hp _) hp _)
theorem endTurned {W : World} {n m : Nat} {v0 v1 v2 : Value} (hn : m ≤ n ∧ n < m + 2) : W.turned (((W.setCell ⟨n, 0, none⟩ v0).setCell ⟨n, 1, none⟩ v1).setCell ⟨n, 2, none⟩ v2) (fun x => m ≤ x ∧ x < m + 2) :=
  (((World.turned.refl W _).set (fun _ => hn) _).set (fun _ => hn) _).set (fun _ => hn) _
def St.result (s : St) (c : Cmd) : Res × St :=
  if c.ses = 0 then s.done c
  else if c.seq = (ssAt s (c.ses - 1).toNat).1 then ((ssAt s (c.ses - 1).toNat).2, s)
  else if c.seq < (ssAt s (c.ses - 1).toNat).1 then (⟨false, s.rev, true⟩, s)
  else ((s.done c).1, (s.done c).2.setSs (c.ses - 1).toNat (c.seq.toNat, (s.done c).1))
theorem storeResult0 (w : World) (p b : Nat) (D : DataW Value) (s : St) (h : StoreAt w p b D s) (c : Cmd) (hc : CmdBd c) (h0 : c.ses = 0) :
    Calls Try.prog 72 #[.pointer (some ⟨p, 0, none⟩), (.agg #[.int .i64 c.kind, .string c.key, .string c.val, .string c.old, .int .i64 c.rev, .int .i64 c.ses, .int .i64 c.seq])] w fun e w' => e = .returned (s.done c).1.v ∧ Chg w w' p b D (s.done c).2 := by
  have H : Hid (StoreAt w p b D s) := h
  have HC : Hid (CmdBd c) := hc
  have g1 : (c.ses == 0) = true := by simp [h0]
  clear h hc h0
  go_enter Try.func72, Try.ntmps72
  go_wp2_with fail
  refine (storeDone _ p b D s (H.out.grown (by repeat (first | exact Below.refl _ _ | assumption | with_reducible refine below_drewN ?_ _ | refine Gr.ext ?_ _ | refine Gr.alloc ?_ _ | refine Gr.drew ?_ | (refine Gr.set ?_ (by first | (simp; done) | (simp; omega)) _)))) c HC.out).mono ?_
  rintro e w1 ⟨rfl, hg⟩
  obtain ⟨HG, hk⟩ := Chg.after H.out (by repeat (first | exact Below.refl _ _ | assumption | with_reducible refine below_drewN ?_ _ | refine Gr.ext ?_ _ | refine Gr.alloc ?_ _ | refine Gr.drew ?_ | (refine Gr.set ?_ (by first | (simp; done) | (simp; omega)) _))) hg
  obtain ⟨hb1, hs1⟩ := hk (w.heap.size + 1) (.cells #[.bool false, .int .i64 0, .bool false] 72) (by omega) (by repeat (first | with_reducible assumption | (with_reducible refine Hp.new ?_; (first | rfl | (simp [go_sem]; done) | (simp [go_sem]; omega)); done) | with_reducible refine Hp.alloc ?_ _ | with_reducible refine Hp.ext ?_ _ | with_reducible refine Hp.drew ?_ | (with_reducible refine Hp.set ?_ (by simp; omega) _)))
  obtain ⟨r0, r1, r2, rf⟩ := res_cells (r := ⟨false, 0, false⟩) hb1
  have HB1 : Hid (w1.heap[w.heap.size + 1]? = some (.cells #[.bool false, .int .i64 0, .bool false] 72)) := hb1
  clear hk hb1 hg
  obtain ⟨r, hr⟩ : ∃ r, r = (s.done c).1 := ⟨_, rfl⟩
  rw [← hr]
  have HR : Hid (r = (s.done c).1) := hr
  clear hr
  simp only [Res.v]
  go_wp2_with fail
  refine world_any (F := fun W => W.heap[w.heap.size + 1]? = some (.cells #[.bool r.ok, .int .i64 r.rev, .bool r.stale] 72) ∧ w1.turned W (fun x => w.heap.size ≤ x ∧ x < w.heap.size + 2)) ⟨?_, (((World.turned.refl w1 _).set (fun _ => by simp) _).set (fun _ => by simp) _).set (fun _ => by simp) _⟩ ?_
  · rw [setCell_heapB, if_pos rfl, setCell_heapB, if_pos rfl, setCell_heapB, if_pos rfl, HB1.out]; rfl
  rintro W ⟨hW, ht⟩
  obtain ⟨z0, z1, z2, zf⟩ := res_cells hW
  exact bodyPost_ret (v := r.v) (by simp [results, Try.results72, go_sem, Res.v, z0, z1, z2]) rfl ⟨by rw [HR.out], HG.out _ (by simpa using ht)⟩
set_option maxHeartbeats 1000000 in
theorem storeResult1 (w : World) (p b : Nat) (D : DataW Value) (s : St) (h : StoreAt w p b D s) (c : Cmd) (hc : CmdBd c) (i : Nat) (h0 : c.ses = (i : Int) + 1) (hi : i < 8) (q : Nat) (hq : c.seq = q) (hlt : q = (ssAt s i).1) :
    Calls Try.prog 72 #[.pointer (some ⟨p, 0, none⟩), (.agg #[.int .i64 c.kind, .string c.key, .string c.val, .string c.old, .int .i64 c.rev, .int .i64 c.ses, .int .i64 c.seq])] w fun e w' => e = .returned (ssAt s i).2.v ∧ Below w.heap.size w w' := by
  obtain ⟨c0, c1, c2, cf⟩ := st_cells h.blk
  obtain ⟨s0, s1, s2, s3⟩ := st_sess h.blk i (by rw [h.good.ss]; exact hi)
  have hp : p < w.heap.size := (Array.getElem?_eq_some_iff.1 h.blk).1
  generalize ssAt s i = x at *
  have g1 : ((i : Int) + 1 == 0) = false := by rw [beq_eq_false_iff_ne]; omega
  have hi8 : (i : Int) < 8 := by omega
  subst hlt
  rw [h0, hq]
  clear h h0 hq hc
  go_enter Try.func72, Try.ntmps72
  go_wp2_with fail
  go_wp2
  go_quiet (fail)
  go_wp2
  go_quiet (fail)
  go_wp2
  refine world_any (F := fun W => W.heap[w.heap.size + 1]? = some (.cells #[.bool x.2.ok, .int .i64 x.2.rev, .bool x.2.stale] 72) ∧ Below w.heap.size w W) ⟨?_, (by repeat (first | exact Below.refl _ _ | assumption | with_reducible refine below_drewN ?_ _ | refine Gr.ext ?_ _ | refine Gr.alloc ?_ _ | refine Gr.drew ?_ | (refine Gr.set ?_ (by first | (simp; done) | (simp; omega)) _)))⟩ ?_
  · exact res_set (r0 := ⟨false, 0, false⟩) (by repeat (first | with_reducible assumption | (with_reducible refine Hp.new ?_; (first | rfl | (simp [go_sem]; done) | (simp [go_sem]; omega)); done) | with_reducible refine Hp.alloc ?_ _ | with_reducible refine Hp.ext ?_ _ | with_reducible refine Hp.drew ?_ | with_reducible refine Hp.drewN ?_ _ | (with_reducible refine Hp.set ?_ (by simp; omega) _)))
  rintro W ⟨hW, hB⟩
  obtain ⟨z0, z1, z2, zf⟩ := res_cells hW
  exact bodyPost_ret (v := x.2.v) (by simp [results, Try.results72, go_sem, Res.v, z0, z1, z2]) rfl ⟨rfl, hB⟩
set_option maxHeartbeats 1000000 in
theorem storeResult2 (w : World) (p b : Nat) (D : DataW Value) (s : St) (h : StoreAt w p b D s) (c : Cmd) (i : Nat) (h0 : c.ses = (i : Int) + 1) (hi : i < 8) (hlt : c.seq < (ssAt s i).1) :
    Calls Try.prog 72 #[.pointer (some ⟨p, 0, none⟩), (.agg #[.int .i64 c.kind, .string c.key, .string c.val, .string c.old, .int .i64 c.rev, .int .i64 c.ses, .int .i64 c.seq])] w fun e w' => e = .returned (Res.v ⟨false, s.rev, true⟩) ∧ Below w.heap.size w w' := by
  obtain ⟨c0, c1, c2, cf⟩ := st_cells h.blk
  obtain ⟨s0, s1, s2, s3⟩ := st_sess h.blk i (by rw [h.good.ss]; exact hi)
  have hp : p < w.heap.size := (Array.getElem?_eq_some_iff.1 h.blk).1
  generalize ssAt s i = x at *
  have g1 : ((i : Int) + 1 == 0) = false := by rw [beq_eq_false_iff_ne]; omega
  have g2 : (c.seq == (x.1 : Int)) = false := by rw [beq_eq_false_iff_ne]; omega
  have hi8 : (i : Int) < 8 := by omega
  rw [h0]
  clear h h0
  go_enter Try.func72, Try.ntmps72
  go_wp2_with fail
  go_wp2
  go_quiet (fail)
  go_wp2
  go_quiet (fail)
  go_wp2
  go_quiet (fail)
  go_wp2
  refine world_any (F := fun W => W.heap[w.heap.size + 1]? = some (.cells #[.bool false, .int .i64 s.rev, .bool true] 72) ∧ Below w.heap.size w W) ⟨?_, (by repeat (first | exact Below.refl _ _ | assumption | with_reducible refine below_drewN ?_ _ | refine Gr.ext ?_ _ | refine Gr.alloc ?_ _ | refine Gr.drew ?_ | (refine Gr.set ?_ (by first | (simp; done) | (simp; omega)) _)))⟩ ?_
  · exact res_set (r0 := ⟨false, 0, false⟩) (r := ⟨false, s.rev, true⟩) (by repeat (first | with_reducible assumption | (with_reducible refine Hp.new ?_; (first | rfl | (simp [go_sem]; done) | (simp [go_sem]; omega)); done) | with_reducible refine Hp.alloc ?_ _ | with_reducible refine Hp.ext ?_ _ | with_reducible refine Hp.drew ?_ | with_reducible refine Hp.drewN ?_ _ | (with_reducible refine Hp.set ?_ (by simp; omega) _)))
  rintro W ⟨hW, hB⟩
  obtain ⟨z0, z1, z2, zf⟩ := res_cells (r := ⟨false, s.rev, true⟩) hW
  exact bodyPost_ret (v := Res.v ⟨false, s.rev, true⟩) (by simp [results, Try.results72, go_sem, Res.v, z0, z1, z2]) rfl ⟨rfl, hB⟩
set_option maxHeartbeats 4000000 in
theorem storeResult3 (w : World) (p b : Nat) (D : DataW Value) (s : St) (h : StoreAt w p b D s) (c : Cmd) (hc : CmdBd c) (i q : Nat) (h0 : c.ses = (i : Int) + 1) (hi : i < 8) (hq : c.seq = q) (hlt : (ssAt s i).1 < q) :
    Calls Try.prog 72 #[.pointer (some ⟨p, 0, none⟩), (.agg #[.int .i64 c.kind, .string c.key, .string c.val, .string c.old, .int .i64 c.rev, .int .i64 c.ses, .int .i64 c.seq])] w fun e w' => e = .returned (s.done c).1.v ∧ Chg w w' p b D ((s.done c).2.setSs i (q, (s.done c).1)) := by
  obtain ⟨c0, c1, c2, cf⟩ := st_cells h.blk
  obtain ⟨s0, s1, s2, s3⟩ := st_sess h.blk i (by rw [h.good.ss]; exact hi)
  have hp : p < w.heap.size := (Array.getElem?_eq_some_iff.1 h.blk).1
  obtain ⟨kind, key, val, old, rev, ses, seq⟩ := c
  simp only at h0 hq
  subst h0 hq
  generalize hcc : (⟨kind, key, val, old, rev, (i : Int) + 1, (q : Int)⟩ : Cmd) = c at *
  have HCC : Hid (⟨kind, key, val, old, rev, (i : Int) + 1, (q : Int)⟩ = c) := hcc
  generalize ssAt s i = x at *
  have g1 : ((i : Int) + 1 == 0) = false := by rw [beq_eq_false_iff_ne]; omega
  have g2 : ((q : Int) == (x.1 : Int)) = false := by rw [beq_eq_false_iff_ne]; omega
  have g3 : decide ((q : Int) < (x.1 : Int)) = false := by rw [decide_eq_false_iff_not]; omega
  have g4 : ¬ q < x.1 := by omega
  have hi8 : (i : Int) < 8 := by omega
  have H : Hid (StoreAt w p b D s) := h
  have HC : Hid (CmdBd c) := hc
  obtain ⟨r, hr⟩ : ∃ r, r = (s.done c).1 := ⟨_, rfl⟩
  have hdone : ∀ W, Below w.heap.size w W → Calls Try.prog 120 #[.pointer (some ⟨p, 0, none⟩), (.agg #[.int .i64 kind, .string key, .string val, .string old, .int .i64 rev, .int .i64 ((i : Int) + 1), .int .i64 q])] W fun e w' => e = .returned (.agg #[.bool r.ok, .int .i64 r.rev, .bool r.stale]) ∧ Chg W w' p b D (s.done c).2 := by
    intro W hW
    have := storeDone W p b D s (h.grown hW) c hc
    rw [← hr] at this
    rw [← hcc] at this ⊢
    exact this
  have HD : Hid (∀ W, Below w.heap.size w W → Calls Try.prog 120 #[.pointer (some ⟨p, 0, none⟩), (.agg #[.int .i64 kind, .string key, .string val, .string old, .int .i64 rev, .int .i64 ((i : Int) + 1), .int .i64 q])] W fun e w' => e = .returned (.agg #[.bool r.ok, .int .i64 r.rev, .bool r.stale]) ∧ Chg W w' p b D (s.done c).2) := hdone
  rw [← hr]
  have HR : Hid (r = (s.done c).1) := hr
  clear h hc hlt hdone hr
  subst hcc
  go_enter Try.func72, Try.ntmps72
  go_wp2_with fail
  go_wp2
  go_quiet (fail)
  go_wp2
  go_quiet (fail)
  go_wp2
  go_quiet (fail)
  go_wp2
  clear s0 s1 s2 s3 c0 c1 c2 g1 g2 g3 g4
  go_region_with (go_at_call 120; go_must (refine Calls.mono (HD.out _ (by repeat (first | exact Below.refl _ _ | assumption | with_reducible refine below_drewN ?_ _ | refine Gr.ext ?_ _ | refine Gr.alloc ?_ _ | refine Gr.drew ?_ | (refine Gr.set ?_ (by first | (simp; done) | (simp; omega)) _)))) ?_; rintro e w6 ⟨rfl, hg⟩; obtain ⟨HG, hk⟩ := Chg.after H.out (by repeat (first | exact Below.refl _ _ | assumption | with_reducible refine below_drewN ?_ _ | refine Gr.ext ?_ _ | refine Gr.alloc ?_ _ | refine Gr.drew ?_ | (refine Gr.set ?_ (by first | (simp; done) | (simp; omega)) _))) hg; have HG2 := Chg.after2 H.out (by repeat (first | exact Below.refl _ _ | assumption | with_reducible refine below_drewN ?_ _ | refine Gr.ext ?_ _ | refine Gr.alloc ?_ _ | refine Gr.drew ?_ | (refine Gr.set ?_ (by first | (simp; done) | (simp; omega)) _))) (by simp [go_sem]) hg i q r; obtain ⟨hp6, hpf, s0, s1, s2, s3⟩ := hg.store i hi; obtain ⟨hn0, hm0⟩ := hk w.heap.size (.cells #[.int .i64 kind, .string key, .string val, .string old, .int .i64 rev, .int .i64 ((i : Int) + 1), .int .i64 q] 23) (Nat.le_refl _) (by repeat (first | with_reducible assumption | (with_reducible refine Hp.new ?_; (first | rfl | (simp [go_sem]; done) | (simp [go_sem]; omega)); done) | with_reducible refine Hp.alloc ?_ _ | with_reducible refine Hp.ext ?_ _ | with_reducible refine Hp.drew ?_ | with_reducible refine Hp.drewN ?_ _ | (with_reducible refine Hp.set ?_ (by simp; omega) _))); obtain ⟨hn1, hm1⟩ := hk (w.heap.size + 1) (.cells #[.bool false, .int .i64 0, .bool false] 72) (by omega) (by repeat (first | with_reducible assumption | (with_reducible refine Hp.new ?_; (first | rfl | (simp [go_sem]; done) | (simp [go_sem]; omega)); done) | with_reducible refine Hp.alloc ?_ _ | with_reducible refine Hp.ext ?_ _ | with_reducible refine Hp.drew ?_ | with_reducible refine Hp.drewN ?_ _ | (with_reducible refine Hp.set ?_ (by simp; omega) _))); have k6 : w6.cell? ⟨w.heap.size, 6, none⟩ = some (.int .i64 q) := (by simp only [World.cell?, hn0]; rfl); obtain ⟨r0, r1, r2, rf⟩ := res_cells (r := ⟨false, 0, false⟩) hn1; have HN1 : Hid (w6.heap[w.heap.size + 1]? = some (.cells #[.bool false, .int .i64 0, .bool false] 72)) := hn1; clear hk hg hn0 hn1 HG))
  all_goals
    go_wp2_with fail
    refine world_any (F := fun W => W.heap[w.heap.size + 1]? = some (.cells #[.bool r.ok, .int .i64 r.rev, .bool r.stale] 72) ∧ ((((w6.setCell ⟨p, 3 + i * 4, none⟩ (.int .i64 q)).setCell ⟨p, 3 + i * 4 + 1, none⟩ (.bool r.ok)).setCell ⟨p, 3 + i * 4 + 2, none⟩ (.int .i64 r.rev)).setCell ⟨p, 3 + i * 4 + 3, none⟩ (.bool r.stale)).turned W (fun x => w.heap.size ≤ x ∧ x < w.heap.size + 2)) ⟨?_, ?_⟩ ?_
    · with_reducible exact endRes HN1.out (by omega)
    · with_reducible exact endTurned (by omega)
    rintro W ⟨hW, ht⟩
    obtain ⟨z0, z1, z2, zf⟩ := res_cells hW
    exact bodyPost_ret (v := r.v) (by simp [results, Try.results72, go_sem, Res.v, z0, z1, z2]) rfl ⟨rfl, HG2.out _ ht⟩
/-- The store's result: a command of a session that comes again is not done again. -/
theorem storeResult (w : World) (p b : Nat) (D : DataW Value) (s : St) (h : StoreAt w p b D s) (c : Cmd) (hc : CmdBd c) :
    Calls Try.prog 72 #[.pointer (some ⟨p, 0, none⟩), (.agg #[.int .i64 c.kind, .string c.key, .string c.val, .string c.old, .int .i64 c.rev, .int .i64 c.ses, .int .i64 c.seq])] w fun e w' => e = .returned (s.result c).1.v ∧ Chg w w' p b D (s.result c).2 := by
  unfold St.result
  by_cases h0 : c.ses = 0
  · rw [if_pos h0]; exact storeResult0 w p b D s h c hc h0
  · rw [if_neg h0]
    have hs0 := hc.s0; have hs8 := hc.s8; have hq0 := hc.q0
    obtain ⟨i, hi⟩ : ∃ i : Nat, c.ses = (i : Int) + 1 := ⟨(c.ses - 1).toNat, by omega⟩
    have hi8 : i < 8 := by omega
    have e : (c.ses - 1).toNat = i := by omega
    obtain ⟨q, hq⟩ : ∃ q : Nat, c.seq = q := ⟨c.seq.toNat, by omega⟩
    rw [e]
    by_cases h1 : c.seq = (ssAt s i).1
    · rw [if_pos h1]
      exact (storeResult1 w p b D s h c hc i hi hi8 q hq (by omega)).mono fun e w' ⟨h2, h3⟩ => ⟨h2, Chg.refl' h h3⟩
    · rw [if_neg h1]
      by_cases h2 : c.seq < (ssAt s i).1
      · rw [if_pos h2]
        exact (storeResult2 w p b D s h c i hi hi8 h2).mono fun e w' ⟨h2, h3⟩ => ⟨h2, Chg.refl' h h3⟩
      · rw [if_neg h2, show c.seq.toNat = q by omega]
        exact storeResult3 w p b D s h c hc i q hi hi8 hq (by omega)
end Go.Proofs.Ytcbbnmodjnnbeaa
/- The law's own comparison of two lists: sameCommands. -/
set_option linter.unusedSimpArgs false
set_option linter.unusedVariables false
namespace Go.Proofs.Ytcbbnmodjnnbeaa
open Go.RowKit

theorem Cmd.off {w : World} {b p : Nat} {r : Cmd} (h : w.rangeAt b p r.cells) :
    w.cell? ⟨b, p, none⟩ = some (.int .i64 r.kind) ∧ w.cell? ⟨b, p + 1, none⟩ = some (.string r.key) ∧ w.cell? ⟨b, p + 2, none⟩ = some (.string r.val) ∧ w.cell? ⟨b, p + 3, none⟩ = some (.string r.old) ∧ w.cell? ⟨b, p + 4, none⟩ = some (.int .i64 r.rev) ∧ w.cell? ⟨b, p + 5, none⟩ = some (.int .i64 r.ses) ∧ w.cell? ⟨b, p + 6, none⟩ = some (.int .i64 r.seq) :=
  ⟨h 0 _ rfl, h 1 _ rfl, h 2 _ rfl, h 3 _ rfl, h 4 _ rfl, h 5 _ rfl, h 6 _ rfl⟩
theorem Cmd.at_reads {w : World} {a : Option Addr} {n cap : Nat} {rs : List Cmd} (h : w.reads 7 (.slice a n cap) (rs.map Cmd.cells)) {k : Nat} (hk : k < rs.length) : ∃ g o, a = some ⟨g, o, none⟩ ∧ g < w.heap.size ∧ w.rangeAt g (o + k * 7) rs[k].cells := by
  rcases h with ⟨_, h2⟩ | ⟨g, off, cap', hv, hg, hc⟩
  · have : rs = [] := by simpa using h2
    subst this; simp at hk
  · injection hv with h1 h2 h3
    exact ⟨g, off, h1, hg, (hc k rs[k].cells (by rw [List.getElem?_map, List.getElem?_eq_getElem hk]; rfl)).2⟩
set_option maxRecDepth 100000 in
set_option maxHeartbeats 1000000 in
theorem sameCommands_same (a1 a2 : Option Addr) (c1 c2 : Nat) (rs : List Cmd) (w : World) (hn : rs.length ≤ 281474976710656) (h1 : w.reads 7 (.slice a1 rs.length c1) (rs.map Cmd.cells)) (h2 : w.reads 7 (.slice a2 rs.length c2) (rs.map Cmd.cells)) :
    Calls Try.prog 64 #[.slice a1 rs.length c1, .slice a2 rs.length c2] w fun e w' => e = .returned (.bool true) ∧ ∃ n, w' = w.drewN n := by
  have heqn := neq_cmd
  go_enter Try.func64, Try.ntmps64
  go_wp2
  go_loopw [5] (fun i wr => ∃ k : Nat, k ≤ rs.length ∧ i = .int .i64 k ∧ ∃ n, wr = w.drewN n) (fun i _ => rs.length - (intOf i).toNat)
  case atStart => exact ⟨0, Nat.zero_le _, rfl, 0, rfl⟩
  case round =>
    obtain ⟨k, hk, rfl, n, rfl⟩ := hrel
    by_cases hlt : k < rs.length
    · obtain ⟨g1, o1, rfl, hg1, hr1⟩ := Cmd.at_reads h1 hlt
      obtain ⟨g2, o2, rfl, hg2, hr2⟩ := Cmd.at_reads h2 hlt
      generalize rs[k] = c at hr1 hr2
      obtain ⟨x0, x1, x2, x3, x4, x5, x6⟩ := Cmd.off hr1
      obtain ⟨y0, y1, y2, y3, y4, y5, y6⟩ := Cmd.off hr2
      have hcc : Cmd.same c c = true := (Cmd.same_iff c c).2 rfl
      clear hr1 hr2 h1 h2
      go_wp2
      go_quiet (fail)
      go_wp2
      exact ⟨⟨k + 1, by omega, val_int (by omega), n + nq, rfl⟩, by simp [intOf]; omega⟩
    · have hkk : k = rs.length := by omega
      subst hkk
      go_wp2
      go_ret
      exact ⟨rfl, n, rfl⟩
end Go.Proofs.Ytcbbnmodjnnbeaa
