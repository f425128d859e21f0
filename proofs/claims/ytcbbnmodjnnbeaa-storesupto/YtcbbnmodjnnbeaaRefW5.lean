/- The document's store: one, step. -/
import Derived.Test.YtcbbnmodjnnbeaaRefW3
set_option linter.unusedSimpArgs false
set_option linter.unusedVariables false
namespace Go.Proofs.Ytcbbnmodjnnbeaa
open Go.RowKit

theorem refTryLay (w : World) (q : Nat) (vl : Value) (s : St) (l : List KV) (h : RefAt w q vl s l) (k v : ByteArray) (gone : Bool) :
    Calls Try.prog 163 #[.pointer (some ⟨q, 0, none⟩), .string k, .bool gone, .string v] w fun e w' => e = .returned (.bool (s.tryLay k v gone).1) ∧ RChg w w' q vl (s.tryLay k v gone).2 := by
  unfold St.tryLay
  by_cases hr : s.rev = 1000000
  · rw [if_pos hr]
    exact (refLayFull w q vl s l h k v gone hr).mono fun e w' ⟨h1, h2⟩ => ⟨h1, RChg.refl' h h2⟩
  · rw [if_neg hr]
    exact refLayOk w q vl s l h k v gone (by have := h.good.rev; omega)
theorem refTryLift (w : World) (q : Nat) (vl : Value) (s : St) (l : List KV) (h : RefAt w q vl s l) (f : Int) :
    Calls Try.prog 164 #[.pointer (some ⟨q, 0, none⟩), .int .i64 f] w fun e w' => e = .returned (.bool (if (s.floor : Int) < f ∧ f ≤ s.rev then (true, s.raise f.toNat) else (false, s)).1) ∧ RChg w w' q vl (if (s.floor : Int) < f ∧ f ≤ s.rev then (true, s.raise f.toNat) else (false, s)).2 := by
  by_cases hf : (s.floor : Int) < f ∧ f ≤ s.rev
  · rw [if_pos hf]
    obtain ⟨n, rfl⟩ : ∃ n : Nat, f = n := ⟨f.toNat, by omega⟩
    exact refLiftYes w q vl s l h n (by omega) (by omega)
  · rw [if_neg hf]
    exact (refLiftNo w q vl s l h f (by omega)).mono fun e w' ⟨h1, h2⟩ => ⟨h1, RChg.refl' h h2⟩
theorem tl_eq {x y : ByteArray} : x.toList = y.toList ↔ x = y := by
  rw [← beq_iff_eq, tl_cmp, beq_bytes]
section
variable {s : St} {c : Cmd} {b0 : Bool} {x0 : ByteArray} {rr : Bool × St}
theorem actA (h : (c.kind == 1) = true) : s.act c = s.tryLay c.key c.val false := by
  unfold St.act; rw [if_pos (beq_iff_eq.1 h)]
theorem actB (hb : (b0 = false ∧ (atV (s.vers c.key) s.rev).gone = true) ∨ (b0 = true ∧ (atV (s.vers c.key) s.rev).gone = false ∧ (atV (s.vers c.key) s.rev).val = x0)) (h1 : (c.kind == 1) = false) (h2 : (c.kind == 2) = true) (h : b0 = true) : s.act c = s.tryLay c.key ⟨#[]⟩ true := by
  rcases hb with ⟨e, _⟩ | ⟨_, e, _⟩
  · rw [h] at e; cases e
  · have := beq_iff_eq.1 h2
    unfold St.act
    rw [if_neg (by omega), if_neg (by omega), if_pos this, if_pos e]
theorem actB' (hb : (b0 = false ∧ (atV (s.vers c.key) s.rev).gone = true) ∨ (b0 = true ∧ (atV (s.vers c.key) s.rev).gone = false ∧ (atV (s.vers c.key) s.rev).val = x0)) (h1 : (c.kind == 1) = false) (h2 : (c.kind == 2) = true) (h : ¬ b0 = true) : s.act c = (false, s) := by
  rcases hb with ⟨_, e⟩ | ⟨e, _, _⟩
  · have := beq_iff_eq.1 h2
    unfold St.act
    rw [if_neg (by omega), if_neg (by omega), if_pos this, if_neg (by rw [e]; simp)]
  · exact absurd e h
theorem actC (hb : (b0 = false ∧ (atV (s.vers c.key) s.rev).gone = true) ∨ (b0 = true ∧ (atV (s.vers c.key) s.rev).gone = false ∧ (atV (s.vers c.key) s.rev).val = x0)) (h1 : (c.kind == 1) = false) (h2 : (c.kind == 2) = false) (h3 : (c.kind == 3) = true) (h : b0 = true) (hx : x0.toList = c.old.toList) : s.act c = s.tryLay c.key c.val false := by
  rcases hb with ⟨e, _⟩ | ⟨_, e, e2⟩
  · rw [h] at e; cases e
  · have := beq_iff_eq.1 h3
    rw [tl_eq] at hx
    unfold St.act
    rw [if_neg (by omega), if_pos this, if_pos ⟨e, e2.trans hx⟩]
theorem actC' (hb : (b0 = false ∧ (atV (s.vers c.key) s.rev).gone = true) ∨ (b0 = true ∧ (atV (s.vers c.key) s.rev).gone = false ∧ (atV (s.vers c.key) s.rev).val = x0)) (h1 : (c.kind == 1) = false) (h2 : (c.kind == 2) = false) (h3 : (c.kind == 3) = true) (hx : (¬ b0 = true) ∨ ¬ x0.toList = c.old.toList) : s.act c = (false, s) := by
  have := beq_iff_eq.1 h3
  unfold St.act
  rw [if_neg (by omega), if_pos this, if_neg]
  rintro ⟨e, e2⟩
  rcases hb with ⟨_, e3⟩ | ⟨e3, _, e4⟩
  · rw [e3] at e; cases e
  · rcases hx with hx | hx
    · exact hx e3
    · exact hx (tl_eq.2 (e4.symm.trans e2))
theorem actD (hr : rr = (if (s.floor : Int) < c.rev ∧ c.rev ≤ s.rev then (true, s.raise c.rev.toNat) else (false, s))) (h1 : (c.kind == 1) = false) (h2 : (c.kind == 2) = false) (h3 : (c.kind == 3) = false) (h4 : (c.kind == 4) = true) : s.act c = rr := by
  have := beq_iff_eq.1 h4
  unfold St.act
  rw [if_neg (by omega), if_neg (by omega), if_neg (by omega), if_pos this, hr]
theorem actE (h1 : (c.kind == 1) = false) (h2 : (c.kind == 2) = false) (h3 : (c.kind == 3) = false) (h4 : (c.kind == 4) = false) : s.act c = (true, s) := by
  have a1 := beq_eq_false_iff_ne.1 h1
  have a2 := beq_eq_false_iff_ne.1 h2
  have a3 := beq_eq_false_iff_ne.1 h3
  have a4 := beq_eq_false_iff_ne.1 h4
  unfold St.act
  rw [if_neg a1, if_neg a3, if_neg a2, if_neg a4]
end
set_option maxRecDepth 100000 in
set_option maxHeartbeats 8000000 in
theorem refOne (w : World) (q : Nat) (vl : Value) (s : St) (l : List KV) (h : RefAt w q vl s l) (c : Cmd) :
    Calls Try.prog 150 #[.pointer (some ⟨q, 0, none⟩), (.agg #[.int .i64 c.kind, .string c.key, .string c.val, .string c.old, .int .i64 c.rev, .int .i64 c.ses, .int .i64 c.seq])] w fun e w' => e = .returned (.bool (s.act c).1) ∧ RChg w w' q vl (s.act c).2 := by
  obtain ⟨c0, c1, c2, cf⟩ := rs_cells h.blk
  have hq := h.lt
  have H : Hid (RefAt w q vl s l) := h
  obtain ⟨k0, r0, g0, x0, b0, hhas, hb0⟩ : ∃ (k0 : ByteArray) (r0 : Int) (g0 : Bool) (x0 : ByteArray) (b0 : Bool), (∀ W, Below w.heap.size w W → Calls Try.prog 114 #[.pointer (some ⟨q, 0, none⟩), .string c.key, .int .i64 s.rev] W fun e w' => e = .returned (.tuple #[.agg #[.string k0, .int .i64 r0, .bool g0, .string x0], .bool b0]) ∧ Below W.heap.size W w') ∧ ((b0 = false ∧ (atV (s.vers c.key) s.rev).gone = true) ∨ (b0 = true ∧ (atV (s.vers c.key) s.rev).gone = false ∧ (atV (s.vers c.key) s.rev).val = x0)) := by
    have hc := fun W (hW : Below w.heap.size w W) => refHas W q vl s l (h.grown hW) c.key s.rev
    rcases hasV_at h.tells.asc c.key s.rev with ⟨e, hg⟩ | ⟨e, hg⟩
    · rw [e] at hc
      rw [← h.tells.vers] at hg
      exact ⟨⟨#[]⟩, 0, false, ⟨#[]⟩, false, hc, .inl ⟨rfl, hg⟩⟩
    · rw [e] at hc
      rw [← h.tells.vers] at hg hc
      exact ⟨c.key, _, _, _, true, hc, .inr ⟨rfl, hg, rfl⟩⟩
  have HHAS : Hid (∀ W, Below w.heap.size w W → Calls Try.prog 114 #[.pointer (some ⟨q, 0, none⟩), .string c.key, .int .i64 s.rev] W fun e w' => e = .returned (.tuple #[.agg #[.string k0, .int .i64 r0, .bool g0, .string x0], .bool b0]) ∧ Below W.heap.size W w') := hhas
  have HB : Hid ((b0 = false ∧ (atV (s.vers c.key) s.rev).gone = true) ∨ (b0 = true ∧ (atV (s.vers c.key) s.rev).gone = false ∧ (atV (s.vers c.key) s.rev).val = x0)) := hb0
  have HLAY : Hid (∀ (W : World) (val : ByteArray) (gone : Bool), Below w.heap.size w W → Calls Try.prog 163 #[.pointer (some ⟨q, 0, none⟩), .string c.key, .bool gone, .string val] W fun e w' => e = .returned (.bool (s.tryLay c.key val gone).1) ∧ Hid (RChg w w' q vl (s.tryLay c.key val gone).2)) := fun W val gone hW =>
    (refTryLay W q vl s l (H.out.grown hW) c.key val gone).mono fun e w' ⟨h1, h2⟩ => ⟨h1, h2.pre hW⟩
  obtain ⟨rr, hrr⟩ : ∃ rr : Bool × St, rr = (if (s.floor : Int) < c.rev ∧ c.rev ≤ s.rev then (true, s.raise c.rev.toNat) else (false, s)) := ⟨_, rfl⟩
  have HRR : Hid (rr = (if (s.floor : Int) < c.rev ∧ c.rev ≤ s.rev then (true, s.raise c.rev.toNat) else (false, s))) := hrr
  have HLIFT : Hid (∀ (W : World), Below w.heap.size w W → Calls Try.prog 164 #[.pointer (some ⟨q, 0, none⟩), .int .i64 c.rev] W fun e w' => e = .returned (.bool rr.1) ∧ Hid (RChg w w' q vl rr.2)) := fun W hW => by
    rw [hrr]
    exact (refTryLift W q vl s l (H.out.grown hW) c.rev).mono fun e w' ⟨h1, h2⟩ => ⟨h1, h2.pre hW⟩
  clear h hhas hb0 hrr
  go_enter Try.func150, Try.ntmps150
  go_wp2_with (go_at_call 114; refine (HHAS.out _ (by repeat (first | exact Below.refl _ _ | assumption | with_reducible refine below_drewN ?_ _ | refine Gr.ext ?_ _ | refine Gr.alloc ?_ _ | refine Gr.drew ?_ | (refine Gr.set ?_ (by first | (simp; done) | (simp; omega)) _)))).mono ?_; rintro e w1 ⟨rfl, hb1⟩; obtain ⟨x1, rfl⟩ := Below.ext hb1; clear hb1)
  apply wp_joinQ (F := fun q' w5 => Below w.heap.size w w5 ∧ w5.heap[w.heap.size]? = some (.cells #[.int .i64 c.kind, .string c.key, .string c.val, .string c.old, .int .i64 c.rev, .int .i64 c.ses, .int .i64 c.seq] 23) ∧ w5.heap[q']? = some (.cells #[.string k0, .int .i64 r0, .bool g0, .string x0] 203))
  case h1 =>
    go_region_with (go_at_call 114; refine (HHAS.out _ (by repeat (first | exact Below.refl _ _ | assumption | with_reducible refine below_drewN ?_ _ | refine Gr.ext ?_ _ | refine Gr.alloc ?_ _ | refine Gr.drew ?_ | (refine Gr.set ?_ (by first | (simp; done) | (simp; omega)) _)))).mono ?_; rintro e w1 ⟨rfl, hb1⟩; obtain ⟨x1, rfl⟩ := Below.ext hb1; clear hb1)
    all_goals first
      | (refine ⟨w.heap.size + 1 + x1.new.size, ?_, (by repeat (first | exact Below.refl _ _ | assumption | with_reducible refine below_drewN ?_ _ | refine Gr.ext ?_ _ | refine Gr.alloc ?_ _ | refine Gr.drew ?_ | (refine Gr.set ?_ (by first | (simp; done) | (simp; omega)) _))), (by repeat (first | with_reducible assumption | (with_reducible refine Hp.new ?_; (first | rfl | (simp [go_sem]; done) | (simp [go_sem]; omega)); done) | with_reducible refine Hp.alloc ?_ _ | with_reducible refine Hp.ext ?_ _ | with_reducible refine Hp.drew ?_ | (with_reducible refine Hp.set ?_ (by simp; omega) _))), (by repeat (first | with_reducible assumption | (with_reducible refine Hp.new ?_; (first | rfl | (simp [go_sem]; done) | (simp [go_sem]; omega)); done) | with_reducible refine Hp.alloc ?_ _ | with_reducible refine Hp.ext ?_ _ | with_reducible refine Hp.drew ?_ | (with_reducible refine Hp.set ?_ (by simp; omega) _)))⟩; generalize w.heap.size + 1 + x1.new.size = q0; rfl)
      | (refine ⟨w.heap.size + 1, ?_, (by repeat (first | exact Below.refl _ _ | assumption | with_reducible refine below_drewN ?_ _ | refine Gr.ext ?_ _ | refine Gr.alloc ?_ _ | refine Gr.drew ?_ | (refine Gr.set ?_ (by first | (simp; done) | (simp; omega)) _))), (by repeat (first | with_reducible assumption | (with_reducible refine Hp.new ?_; (first | rfl | (simp [go_sem]; done) | (simp [go_sem]; omega)); done) | with_reducible refine Hp.alloc ?_ _ | with_reducible refine Hp.ext ?_ _ | with_reducible refine Hp.drew ?_ | (with_reducible refine Hp.set ?_ (by simp; omega) _))), (by repeat (first | with_reducible assumption | (with_reducible refine Hp.new ?_; (first | rfl | (simp [go_sem]; done) | (simp [go_sem]; omega)); done) | with_reducible refine Hp.alloc ?_ _ | with_reducible refine Hp.ext ?_ _ | with_reducible refine Hp.drew ?_ | (with_reducible refine Hp.set ?_ (by simp; omega) _)))⟩; generalize w.heap.size + 1 = q0; rfl)
  case h2 =>
    rintro q' w5 ⟨hb5, hc5, hv5⟩
    have hql : q < w5.heap.size := by have := hb5.size; omega
    have k0' : w5.cell? ⟨w.heap.size, 0, none⟩ = some (.int .i64 c.kind) := by simp only [World.cell?, hc5]; rfl
    have k1' : w5.cell? ⟨w.heap.size, 1, none⟩ = some (.string c.key) := by simp only [World.cell?, hc5]; rfl
    have k2' : w5.cell? ⟨w.heap.size, 2, none⟩ = some (.string c.val) := by simp only [World.cell?, hc5]; rfl
    have k3' : w5.cell? ⟨w.heap.size, 3, none⟩ = some (.string c.old) := by simp only [World.cell?, hc5]; rfl
    have k4' : w5.cell? ⟨w.heap.size, 4, none⟩ = some (.int .i64 c.rev) := by simp only [World.cell?, hc5]; rfl
    have v3' : w5.cell? ⟨q', 3, none⟩ = some (.string x0) := by simp only [World.cell?, hv5]; rfl
    have HB5 : Hid (Below w.heap.size w w5) := hb5
    clear hb5 hc5 hv5 c0 c1 c2 cf
    go_wp2_with (first | (go_at_call 163; refine (HLAY.out _ _ _ HB5.out).mono ?_; rintro e w6 ⟨rfl, HG⟩) | (go_at_call 164; refine (HLIFT.out _ HB5.out).mono ?_; rintro e w6 ⟨rfl, HG⟩))
    all_goals go_ret
    all_goals first
      | (rw [actA (s := s) (by assumption)]; exact ⟨rfl, HG.out⟩)
      | (rw [actB (s := s) HB.out (by assumption) (by assumption) (by assumption)]; exact ⟨rfl, HG.out⟩)
      | (rw [actB' (s := s) HB.out (by assumption) (by assumption) (by assumption)]; exact ⟨rfl, RChg.refl' H.out HB5.out⟩)
      | (rw [actC (s := s) HB.out (by assumption) (by assumption) (by assumption) (by assumption) (by assumption)]; exact ⟨rfl, HG.out⟩)
      | (rw [actC' (s := s) HB.out (by assumption) (by assumption) (by assumption) (.inl (by assumption))]; exact ⟨rfl, RChg.refl' H.out HB5.out⟩)
      | (rw [actC' (s := s) HB.out (by assumption) (by assumption) (by assumption) (.inr (by assumption))]; exact ⟨rfl, RChg.refl' H.out HB5.out⟩)
      | (rw [actD (s := s) HRR.out (by assumption) (by assumption) (by assumption) (by assumption)]; exact ⟨rfl, HG.out⟩)
      | (rw [actE (s := s) (by assumption) (by assumption) (by assumption) (by assumption)]; exact ⟨rfl, RChg.refl' H.out HB5.out⟩)
end Go.Proofs.Ytcbbnmodjnnbeaa
/- The document's store: step. -/
set_option linter.unusedSimpArgs false
set_option linter.unusedVariables false
namespace Go.Proofs.Ytcbbnmodjnnbeaa
open Go.RowKit

theorem own_type_ne {w : World} {e t : TypeId} {sz n : Nat} {v : Value} {cs : List (List Value)} {c : Array Value} {f : Nat × Nat} (h : w.ownL e sz v cs) (hb : w.heap[n]? = some (.cells c t f)) (hne : e ≠ t) : v.ownBlock ≠ some n := by
  intro hx
  rcases h.1.2 with ⟨rfl, _⟩ | ⟨g, cap, cur, rfl, _, hb', _⟩
  · cases hx
  · have e2 : g = n := by simpa [Value.ownBlock] using hx
    subst e2
    rw [hb] at hb'
    injection hb' with hb'
    injection hb' with _ h1 _
    exact hne h1.symm
theorem rs_sess {w : World} {q : Nat} {vl : Value} {s : St} (h : w.heap[q]? = some (.cells (rsC s vl) 147)) (i : Nat) (hi : i < s.ss.length) :
    w.cell? ⟨q, 3 + (i + 1) * 4, none⟩ = some (.int .i64 (ssAt s i).1) ∧ w.cell? ⟨q, 3 + (i + 1) * 4 + 1, none⟩ = some (.bool (ssAt s i).2.ok) ∧ w.cell? ⟨q, 3 + (i + 1) * 4 + 2, none⟩ = some (.int .i64 (ssAt s i).2.rev) ∧ w.cell? ⟨q, 3 + (i + 1) * 4 + 3, none⟩ = some (.bool (ssAt s i).2.stale) := by
  have key : ∀ j, j < 4 → w.cell? ⟨q, 3 + (i + 1) * 4 + j, none⟩ = [Value.int .i64 (ssAt s i).1, .bool (ssAt s i).2.ok, .int .i64 (ssAt s i).2.rev, .bool (ssAt s i).2.stale][j]? := by
    intro j hj
    have := sess_at s.ss i hi j hj
    have e : ssAt s i = s.ss[i] := by unfold ssAt; rw [List.getElem?_eq_getElem hi]; rfl
    rw [e, ← this]
    simp only [World.cell?, h, rsC]
    show (Value.int .i64 s.rev :: .int .i64 s.floor :: vl :: .int .i64 0 :: .bool false :: .int .i64 0 :: .bool false :: sessCells s.ss).toArray[3 + (i + 1) * 4 + j]? = _
    rw [List.getElem?_toArray, show 3 + (i + 1) * 4 + j = (i * 4 + j) + 1 + 1 + 1 + 1 + 1 + 1 + 1 by omega]
    simp only [List.getElem?_cons_succ]
  exact ⟨key 0 (by omega), key 1 (by omega), key 2 (by omega), key 3 (by omega)⟩
theorem rsC_setSs (s : St) (vl : Value) (i : Nat) (x : Nat × Res) : ((((rsC s vl).setIfInBounds (3 + (i + 1) * 4) (.int .i64 x.1)).setIfInBounds (3 + (i + 1) * 4 + 1) (.bool x.2.ok)).setIfInBounds (3 + (i + 1) * 4 + 2) (.int .i64 x.2.rev)).setIfInBounds (3 + (i + 1) * 4 + 3) (.bool x.2.stale) = rsC (s.setSs i x) vl := by
  unfold rsC
  have e : sessCells ((0, ⟨false, 0, false⟩) :: s.ss.set i x) = sessCells (((0, ⟨false, 0, false⟩) :: s.ss).set (i + 1) x) := rfl
  rw [List.setIfInBounds_toArray, List.setIfInBounds_toArray, List.setIfInBounds_toArray, List.setIfInBounds_toArray, show 3 + (i + 1) * 4 = ((i + 1) * 4) + 1 + 1 + 1 by omega]
  rw [show (i + 1) * 4 + 1 + 1 + 1 + 1 = ((i + 1) * 4 + 1) + 1 + 1 + 1 by omega, show (i + 1) * 4 + 1 + 1 + 1 + 2 = ((i + 1) * 4 + 2) + 1 + 1 + 1 by omega, show (i + 1) * 4 + 1 + 1 + 1 + 3 = ((i + 1) * 4 + 3) + 1 + 1 + 1 by omega]
  simp only [List.set_cons_succ]
  rw [← sess_set, ← e]
  rfl
theorem refDone (w : World) (q : Nat) (vl : Value) (s : St) (l : List KV) (h : RefAt w q vl s l) (c : Cmd) (W : World) (hW : Below w.heap.size w W) :
    Calls Try.prog 150 #[.pointer (some ⟨q, 0, none⟩), (.agg #[.int .i64 c.kind, .string c.key, .string c.val, .string c.old, .int .i64 c.rev, .int .i64 c.ses, .int .i64 c.seq])] W fun e w' => e = .returned (.bool (s.act c).1) ∧ RChg W w' q vl (s.act c).2 :=
  refOne W q vl s l (h.grown hW) c
set_option maxRecDepth 100000 in
set_option maxHeartbeats 2000000 in
theorem refStep0 (w : World) (q : Nat) (vl : Value) (s : St) (l : List KV) (h : RefAt w q vl s l) (c : Cmd) (h0 : c.ses = 0) :
    Calls Try.prog 112 #[.pointer (some ⟨q, 0, none⟩), (.agg #[.int .i64 c.kind, .string c.key, .string c.val, .string c.old, .int .i64 c.rev, .int .i64 c.ses, .int .i64 c.seq])] w fun e w' => e = .returned (s.done c).1.v ∧ RChg w w' q vl (s.done c).2 := by
  have H : Hid (RefAt w q vl s l) := h
  have g1 : decide (0 < c.ses) = false := decide_eq_false (by omega)
  clear h h0
  go_enter Try.func112, Try.ntmps112
  go_wp2_with fail
  refine (refDone w q vl s l H.out c _ (by repeat (first | exact Below.refl _ _ | assumption | with_reducible refine below_drewN ?_ _ | refine Gr.ext ?_ _ | refine Gr.alloc ?_ _ | refine Gr.drew ?_ | (refine Gr.set ?_ (by first | (simp; done) | (simp; omega)) _)))).mono ?_
  rintro e w1 ⟨rfl, hg⟩
  have hB0 : Below w.heap.size w ((w.alloc (.cells #[.int .i64 c.kind, .string c.key, .string c.val, .string c.old, .int .i64 c.rev, .int .i64 c.ses, .int .i64 c.seq] 23)).alloc (.cells #[.bool false, .int .i64 0, .bool false] 72)) := (by repeat (first | exact Below.refl _ _ | assumption | with_reducible refine below_drewN ?_ _ | refine Gr.ext ?_ _ | refine Gr.alloc ?_ _ | refine Gr.drew ?_ | (refine Gr.set ?_ (by first | (simp; done) | (simp; omega)) _)))
  obtain ⟨vl', l', hR, hf, ht⟩ := hg.pre hB0
  obtain ⟨vl2, l2, hR2, hf2, ht2⟩ := hg
  have hsz : w.heap.size + 2 ≤ w1.heap.size := by have := ht2.size; simp at this; omega
  have hqf : ∀ x, w.heap.size ≤ x → ¬ footR q vl x := fun x hx hf => by have := H.out.foot_lt hf; omega
  have hc1 : w1.heap[w.heap.size]? = some (.cells #[.int .i64 c.kind, .string c.key, .string c.val, .string c.old, .int .i64 c.rev, .int .i64 c.ses, .int .i64 c.seq] 23) := (ht2.block _ (by simp; omega) (hqf _ (Nat.le_refl _))).trans (by repeat (first | with_reducible assumption | (with_reducible refine Hp.new ?_; (first | rfl | (simp [go_sem]; done) | (simp [go_sem]; omega)); done) | with_reducible refine Hp.alloc ?_ _ | with_reducible refine Hp.ext ?_ _ | with_reducible refine Hp.drew ?_ | (with_reducible refine Hp.set ?_ (by simp; omega) _)))
  have hr1 : w1.heap[w.heap.size + 1]? = some (.cells #[.bool false, .int .i64 0, .bool false] 72) := (ht2.block _ (by simp) (hqf _ (by omega))).trans (by repeat (first | with_reducible assumption | (with_reducible refine Hp.new ?_; (first | rfl | (simp [go_sem]; done) | (simp [go_sem]; omega)); done) | with_reducible refine Hp.alloc ?_ _ | with_reducible refine Hp.ext ?_ _ | with_reducible refine Hp.drew ?_ | (with_reducible refine Hp.set ?_ (by simp; omega) _)))
  have HG : Hid (RefAt w1 q vl' (s.act c).2 l' ∧ (∀ x, vl'.ownBlock = some x → vl.ownBlock = some x ∨ w.heap.size ≤ x) ∧ w.turned w1 (footR q vl)) := ⟨hR, hf, ht⟩
  obtain ⟨c0, c1, c2, cf⟩ := rs_cells hR.blk
  have hq1 : q < w1.heap.size := hR.lt
  have k5 : w1.cell? ⟨w.heap.size, 5, none⟩ = some (.int .i64 c.ses) := by simp only [World.cell?, hc1]; rfl
  clear hR hf ht hR2 hf2 ht2 hB0 hqf
  obtain ⟨ok, hok⟩ : ∃ ok, (s.act c).1 = ok := ⟨_, rfl⟩
  have HOK : Hid ((s.act c).1 = ok) := hok
  rw [hok]
  have hb1 : w.heap.size < w1.heap.size := by omega
  have hb2 : w.heap.size + 1 < w1.heap.size := by omega
  have HR1 : Hid (w1.heap[w.heap.size + 1]? = some (.cells #[.bool false, .int .i64 0, .bool false] 72)) := hr1
  obtain ⟨r0, r1, r2, rf⟩ := res_cells (r := ⟨false, 0, false⟩) hr1
  clear hc1 hr1 hok hsz
  obtain ⟨s', hs'⟩ : ∃ s', (s.act c).2 = s' := ⟨_, rfl⟩
  have HS' : Hid ((s.act c).2 = s') := hs'
  rw [hs'] at HG c0 c1
  clear hs'
  go_wp2_with fail
  refine world_any (F := fun W => W.heap[w.heap.size + 1]? = some (.cells #[.bool ok, .int .i64 s'.rev, .bool false] 72) ∧ w1.turned W (fun x => x = w.heap.size + 1)) ⟨?_, ?_⟩ ?_
  · exact Hp.alloc (res_set (r0 := ⟨false, 0, false⟩) (r := ⟨ok, s'.rev, false⟩) HR1.out) _
  · exact (World.turned.set (S := fun x => x = w.heap.size + 1) (World.turned.set (S := fun x => x = w.heap.size + 1) (World.turned.set (S := fun x => x = w.heap.size + 1) (World.turned.refl w1 _) (fun _ => rfl) _) (fun _ => rfl) _) (fun _ => rfl) _).alloc _
  rintro W ⟨hW, hT⟩
  obtain ⟨z0, z1, z2, zf⟩ := res_cells (r := ⟨ok, s'.rev, false⟩) hW
  refine bodyPost_ret (v := .agg #[.bool ok, .int .i64 s'.rev, .bool false]) (by simp [results, Try.results112, go_sem, z0, z1, z2]) rfl ⟨?_, ?_⟩
  · show _ = Ending.returned (Res.v ⟨(s.act c).1, (s.act c).2.rev, false⟩)
    rw [HOK.out, HS'.out]; rfl
  · show RChg w W q vl (s.act c).2
    rw [HS'.out]
    have hqn : q ≠ w.heap.size + 1 := by have := H.out.lt; omega
    refine ⟨vl', l', HG.out.1.keep fun x hx => hT.block x (HG.out.1.foot_lt hx) fun e => ?_, HG.out.2.1, HG.out.2.2.trans hT fun x hx e => by omega⟩
    rcases hx with hx | hx
    · exact hqn (hx.symm.trans e)
    · exact own_type_ne HG.out.1.own HR1.out (by decide) (e ▸ hx)
theorem wp_joinW {P : Program} {c : Code} {Q : Exit → Act → World → Prop} {a : Act} {W : World} (fa : Act) (fw : World) (h1 : Code.wp P c (fun e a' w' => match e with | .normal => a' = fa ∧ w' = fw | _ => False) a W) (h2 : Q .normal fa fw) : Code.wp P c Q a W :=
  Code.wp_mono (by
    intro e a' w' h
    cases e <;> try exact h.elim
    obtain ⟨rfl, rfl⟩ := h
    exact h2) h1
theorem stepEnd {w w5 W : World} (hb : Below w.heap.size w w5) (ht : w5.turned W (fun x => x = w.heap.size + 1)) : Below w.heap.size w W :=
  ((World.turned.of_below hb (fun _ => False)).trans ht (fun x hx e => by omega)).below (fun _ _ h => h)
set_option maxRecDepth 100000 in
set_option maxHeartbeats 8000000 in
theorem refStepS (w : World) (q : Nat) (vl : Value) (s : St) (l : List KV) (h : RefAt w q vl s l) (c : Cmd) (i : Nat) (h0 : c.ses = (i : Int) + 1) (hi : i < 8) (n : Nat) (hq : c.seq = n) :
    Calls Try.prog 112 #[.pointer (some ⟨q, 0, none⟩), (.agg #[.int .i64 c.kind, .string c.key, .string c.val, .string c.old, .int .i64 c.rev, .int .i64 c.ses, .int .i64 c.seq])] w fun e w' => e = .returned (s.result c).1.v ∧ RChg w w' q vl (s.result c).2 := by
  obtain ⟨c0, c1, c2, cf⟩ := rs_cells h.blk
  obtain ⟨s0, s1, s2, s3⟩ := rs_sess h.blk i (by rw [h.good.ss]; exact hi)
  have hp : q < w.heap.size := h.lt
  have H : Hid (RefAt w q vl s l) := h
  have HRES : Hid (s.result c = if n = (ssAt s i).1 then ((ssAt s i).2, s) else if n < (ssAt s i).1 then (⟨false, s.rev, true⟩, s) else ((s.done c).1, (s.done c).2.setSs i (n, (s.done c).1))) := by
    show _ = _
    unfold St.result
    rw [if_neg (by omega), h0, hq, show ((i : Int) + 1 - 1).toNat = i by omega]
    have e1 : ((n : Int) = ((ssAt s i).1 : Int)) ↔ n = (ssAt s i).1 := by omega
    have e2 : ((n : Int) < ((ssAt s i).1 : Int)) ↔ n < (ssAt s i).1 := by omega
    simp only [e1, e2, Int.toNat_natCast]
  generalize ssAt s i = x at *
  have g1 : (0 : Int) < (i : Int) + 1 := by omega
  have hi8 : (i : Int) < 8 := by omega
  obtain ⟨kind, key, val, old, rev, ses, seq⟩ := c
  simp only at h0 hq
  subst h0 hq
  generalize hcc : (⟨kind, key, val, old, rev, (i : Int) + 1, (n : Int)⟩ : Cmd) = c at *
  have HCC : Hid (⟨kind, key, val, old, rev, (i : Int) + 1, (n : Int)⟩ = c) := hcc
  have HDONE : Hid (∀ W, Below w.heap.size w W → Calls Try.prog 150 #[.pointer (some ⟨q, 0, none⟩), .agg #[.int .i64 kind, .string key, .string val, .string old, .int .i64 rev, .int .i64 ((i : Int) + 1), .int .i64 n]] W fun e w' => e = .returned (.bool (s.act c).1) ∧ Hid (RChg W w' q vl (s.act c).2)) := fun W hW => by
    have := refDone w q vl s l h c W hW
    rw [← hcc] at this ⊢
    exact this
  rw [← hcc]
  clear h hcc
  go_enter Try.func112, Try.ntmps112
  go_wp2_with fail
  apply wp_joinQ (F := fun q' w5 => Below w.heap.size w w5 ∧ w5.heap[w.heap.size]? = some (.cells #[.int .i64 kind, .string key, .string val, .string old, .int .i64 rev, .int .i64 ((i : Int) + 1), .int .i64 n] 23) ∧ w5.heap[w.heap.size + 1]? = some (.cells #[.bool false, .int .i64 0, .bool false] 72) ∧ w5.heap[q']? = some (.cells #[.int .i64 x.1, .bool x.2.ok, .int .i64 x.2.rev, .bool x.2.stale] 144))
  case h1 =>
    go_region_with fail
    all_goals (refine ⟨w.heap.size + 1 + 1, ?_, (by repeat (first | exact Below.refl _ _ | assumption | with_reducible refine below_drewN ?_ _ | refine Gr.ext ?_ _ | refine Gr.alloc ?_ _ | refine Gr.drew ?_ | (refine Gr.set ?_ (by first | (simp; done) | (simp; omega)) _))), (by repeat (first | with_reducible assumption | (with_reducible refine Hp.new ?_; (first | rfl | (simp [go_sem]; done) | (simp [go_sem]; omega)); done) | with_reducible refine Hp.alloc ?_ _ | with_reducible refine Hp.ext ?_ _ | with_reducible refine Hp.drew ?_ | (with_reducible refine Hp.set ?_ (by simp; omega) _))), (by repeat (first | with_reducible assumption | (with_reducible refine Hp.new ?_; (first | rfl | (simp [go_sem]; done) | (simp [go_sem]; omega)); done) | with_reducible refine Hp.alloc ?_ _ | with_reducible refine Hp.ext ?_ _ | with_reducible refine Hp.drew ?_ | (with_reducible refine Hp.set ?_ (by simp; omega) _))), (by repeat (first | with_reducible assumption | (with_reducible refine Hp.new ?_; (first | rfl | (simp [go_sem]; done) | (simp [go_sem]; omega)); done) | with_reducible refine Hp.alloc ?_ _ | with_reducible refine Hp.ext ?_ _ | with_reducible refine Hp.drew ?_ | (with_reducible refine Hp.set ?_ (by simp; omega) _)))⟩; generalize w.heap.size + 1 + 1 = q0; rfl)
  case h2 =>
    rintro q' w5 ⟨hb5, hc5, hr5, hv5⟩
    have hs5 : w.heap.size + 1 < w5.heap.size := (Array.getElem?_eq_some_iff.1 hr5).1
    have hs5' : w.heap.size < w5.heap.size := by omega
    have hqv : q' < w5.heap.size := (Array.getElem?_eq_some_iff.1 hv5).1
    have k5 : w5.cell? ⟨w.heap.size, 5, none⟩ = some (.int .i64 ((i : Int) + 1)) := by simp only [World.cell?, hc5]; rfl
    have k6 : w5.cell? ⟨w.heap.size, 6, none⟩ = some (.int .i64 n) := by simp only [World.cell?, hc5]; rfl
    have v0 : w5.cell? ⟨q', 0, none⟩ = some (.int .i64 x.1) := by simp only [World.cell?, hv5]; rfl
    have v1 : w5.cell? ⟨q', 1, none⟩ = some (.bool x.2.ok) := by simp only [World.cell?, hv5]; rfl
    have v2 : w5.cell? ⟨q', 2, none⟩ = some (.int .i64 x.2.rev) := by simp only [World.cell?, hv5]; rfl
    have v3 : w5.cell? ⟨q', 3, none⟩ = some (.bool x.2.stale) := by simp only [World.cell?, hv5]; rfl
    obtain ⟨r0, r1, r2, rf⟩ := res_cells (r := ⟨false, 0, false⟩) hr5
    obtain ⟨e0, e1, e2, ef⟩ := rs_cells (H.out.grown hb5).blk
    have hq5 : q < w5.heap.size := by omega
    have HB5 : Hid (Below w.heap.size w w5) := hb5
    have HC5 : Hid (w5.heap[w.heap.size]? = some (.cells #[.int .i64 kind, .string key, .string val, .string old, .int .i64 rev, .int .i64 ((i : Int) + 1), .int .i64 n] 23)) := hc5
    have HR5 : Hid (w5.heap[w.heap.size + 1]? = some (.cells #[.bool false, .int .i64 0, .bool false] 72)) := hr5
    clear c0 c1 c2 cf s0 s1 s2 s3 hb5 hc5 hr5 hv5
    rcases Nat.lt_trichotomy n x.1 with hlt | hlt | hlt
    · have f1 : (n == x.1) = false := beq_eq_false_iff_ne.2 (by omega)
      have f2 : decide (n < x.1) = true := decide_eq_true hlt
      have f3 : ((n : Int) == (x.1 : Int)) = false := beq_eq_false_iff_ne.2 (by omega)
      have HRS : Hid (s.result c = (⟨false, s.rev, true⟩, s)) := by show _ = _; rw [HRES.out, if_neg (by omega), if_pos hlt]
      clear hlt
      go_wp2_with fail
      refine world_any (F := fun W => W.heap[w.heap.size + 1]? = some (.cells #[.bool (⟨false, s.rev, true⟩ : Res).ok, .int .i64 (⟨false, s.rev, true⟩ : Res).rev, .bool (⟨false, s.rev, true⟩ : Res).stale] 72) ∧ w5.turned W (fun x => x = w.heap.size + 1)) ⟨res_set (r0 := ⟨false, 0, false⟩) (r := (⟨false, s.rev, true⟩ : Res)) HR5.out, World.turned.set (S := fun x => x = w.heap.size + 1) (World.turned.set (S := fun x => x = w.heap.size + 1) (World.turned.set (S := fun x => x = w.heap.size + 1) (World.turned.refl w5 _) (fun _ => rfl) _) (fun _ => rfl) _) (fun _ => rfl) _⟩ ?_
      rintro W ⟨hW, hT⟩
      obtain ⟨z0, z1, z2, zf⟩ := res_cells (r := (⟨false, s.rev, true⟩ : Res)) hW
      exact bodyPost_ret (v := Res.v (⟨false, s.rev, true⟩ : Res)) (by simp [results, Try.results112, go_sem, Res.v, z0, z1, z2]) rfl ⟨by rw [HCC.out, HRS.out], by rw [HCC.out, HRS.out]; exact RChg.refl' H.out (stepEnd HB5.out hT)⟩
    · have f1 : (n == x.1) = true := beq_iff_eq.2 hlt
      have f3 : ((n : Int) == (x.1 : Int)) = true := beq_iff_eq.2 (by omega)
      have HRS : Hid (s.result c = (x.2, s)) := by show _ = _; rw [HRES.out, if_pos hlt]
      clear hlt
      go_wp2_with fail
      refine world_any (F := fun W => W.heap[w.heap.size + 1]? = some (.cells #[.bool x.2.ok, .int .i64 x.2.rev, .bool x.2.stale] 72) ∧ w5.turned W (fun x => x = w.heap.size + 1)) ⟨res_set (r0 := ⟨false, 0, false⟩) (r := x.2) HR5.out, World.turned.set (S := fun x => x = w.heap.size + 1) (World.turned.set (S := fun x => x = w.heap.size + 1) (World.turned.set (S := fun x => x = w.heap.size + 1) (World.turned.refl w5 _) (fun _ => rfl) _) (fun _ => rfl) _) (fun _ => rfl) _⟩ ?_
      rintro W ⟨hW, hT⟩
      obtain ⟨z0, z1, z2, zf⟩ := res_cells (r := x.2) hW
      exact bodyPost_ret (v := Res.v x.2) (by simp [results, Try.results112, go_sem, Res.v, z0, z1, z2]) rfl ⟨by rw [HCC.out, HRS.out], by rw [HCC.out, HRS.out]; exact RChg.refl' H.out (stepEnd HB5.out hT)⟩
    · have f1 : (n == x.1) = false := beq_eq_false_iff_ne.2 (by omega)
      have f2 : decide (n < x.1) = false := decide_eq_false (by omega)
      have f3 : ((n : Int) == (x.1 : Int)) = false := beq_eq_false_iff_ne.2 (by omega)
      have HRS : Hid (s.result c = ((s.done c).1, (s.done c).2.setSs i (n, (s.done c).1))) := by show _ = _; rw [HRES.out, if_neg (by omega), if_neg (by omega)]
      clear hlt
      have k0 : w5.cell? ⟨w.heap.size, 0, none⟩ = some (.int .i64 kind) := by simp only [World.cell?, HC5.out]; rfl
      have k1 : w5.cell? ⟨w.heap.size, 1, none⟩ = some (.string key) := by simp only [World.cell?, HC5.out]; rfl
      have k2 : w5.cell? ⟨w.heap.size, 2, none⟩ = some (.string val) := by simp only [World.cell?, HC5.out]; rfl
      have k3 : w5.cell? ⟨w.heap.size, 3, none⟩ = some (.string old) := by simp only [World.cell?, HC5.out]; rfl
      have k4 : w5.cell? ⟨w.heap.size, 4, none⟩ = some (.int .i64 rev) := by simp only [World.cell?, HC5.out]; rfl
      go_wp2_with fail
      refine (HDONE.out _ HB5.out).mono ?_
      rintro e w6 ⟨rfl, HG⟩
      obtain ⟨vl', l', hR, hf, ht⟩ := HG.out
      have hqf : ∀ x, w.heap.size ≤ x → ¬ footR q vl x := fun x hx hf => by have := H.out.foot_lt hf; omega
      have hs6 := ht.size
      have hc6 := (ht.block _ hs5' (hqf _ (Nat.le_refl _))).trans HC5.out
      have hr6 := (ht.block _ hs5 (hqf _ (by omega))).trans HR5.out
      have HR6 : Hid (w6.heap[w.heap.size + 1]? = some (.cells #[.bool false, .int .i64 0, .bool false] 72)) := hr6
      have k5' : w6.cell? ⟨w.heap.size, 5, none⟩ = some (.int .i64 ((i : Int) + 1)) := by simp only [World.cell?, hc6]; rfl
      have k6' : w6.cell? ⟨w.heap.size, 6, none⟩ = some (.int .i64 n) := by simp only [World.cell?, hc6]; rfl
      have g0 : w.heap.size < w6.heap.size := by omega
      have g2 : w.heap.size + 1 < w6.heap.size := by omega
      obtain ⟨ok, hok⟩ : ∃ ok, (s.act c).1 = ok := ⟨_, rfl⟩
      have HOK : Hid ((s.act c).1 = ok) := hok
      obtain ⟨s', hs'⟩ : ∃ s', (s.act c).2 = s' := ⟨_, rfl⟩
      have HS' : Hid ((s.act c).2 = s') := hs'
      rw [hs'] at hR
      rw [hok]
      have HW6 : Hid (RefAt w6 q vl' s' l' ∧ (∀ x, vl'.ownBlock = some x → vl.ownBlock = some x ∨ w5.heap.size ≤ x) ∧ w5.turned w6 (footR q vl)) := ⟨hR, hf, ht⟩
      obtain ⟨c0, c1, c2, cf⟩ := rs_cells hR.blk
      obtain ⟨s0, s1, s2, s3⟩ := rs_sess hR.blk i (by rw [hR.good.ss]; exact hi)
      generalize ssAt s' i = y at s0 s1 s2 s3
      have hq6 : q < w6.heap.size := hR.lt
      obtain ⟨r0', r1', r2', rf'⟩ := res_cells (r := ⟨false, 0, false⟩) hr6
      clear hR hf ht hqf hs6 hc6 hr6 hok hs' k0 k1 k2 k3 k4 k5 k6 v0 v1 v2 v3 r0 r1 r2 rf e0 e1 e2 ef HG
      go_wp2_with fail
      refine world_any (F := fun w7 => w7 = w6.alloc (.cells #[.bool ok, .int .i64 s'.rev, .bool false] 72)) rfl ?_
      intro w7 hw7
      have HW7 : Hid (w7 = w6.alloc (.cells #[.bool ok, .int .i64 s'.rev, .bool false] 72)) := hw7
      have t0 : w7.cell? ⟨w6.heap.size, 0, none⟩ = some (.bool ok) := by rw [hw7]; simp only [World.cell?, heap_alloc_new]; rfl
      have t1 : w7.cell? ⟨w6.heap.size, 1, none⟩ = some (.int .i64 s'.rev) := by rw [hw7]; simp only [World.cell?, heap_alloc_new]; rfl
      have t2 : w7.cell? ⟨w6.heap.size, 2, none⟩ = some (.bool false) := by rw [hw7]; simp only [World.cell?, heap_alloc_new]; rfl
      have hold : ∀ p : Addr, p.block < w6.heap.size → w7.cell? p = w6.cell? p := fun p hp => by rw [hw7]; exact World.cell?_of_block (Below.heap_alloc _ _ _ hp)
      have hfro : ∀ o, w7.frozen? ⟨q, o, none⟩ = false := fun o => by rw [← cf o, hw7]; simp only [World.frozen?, Below.heap_alloc _ _ _ hq6]
      have k5 := (hold ⟨w.heap.size, 5, none⟩ g0).trans k5'
      have k6 := (hold ⟨w.heap.size, 6, none⟩ g0).trans k6'
      have y0 := (hold ⟨q, _, none⟩ hq6).trans s0
      have y1 := (hold ⟨q, _, none⟩ hq6).trans s1
      have y2 := (hold ⟨q, _, none⟩ hq6).trans s2
      have y3 := (hold ⟨q, _, none⟩ hq6).trans s3
      have hs7 : w7.heap.size = w6.heap.size + 1 := by rw [hw7]; simp
      have hq7 : q < w7.heap.size := by omega
      have hqn : ¬ w6.heap.size = q := by omega
      have hqn' : ¬ w.heap.size = q := by omega
      clear hold s0 s1 s2 s3 c0 c1 c2 cf k5' k6' r0' r1' r2' rf' hw7
      apply wp_joinW
      case h1 =>
        go_region_with fail
        all_goals exact ⟨rfl, rfl⟩
      case h2 =>
        refine world_any (F := fun w8 => w8.heap[q]? = some (.cells (rsC (s'.setSs i (n, ⟨ok, s'.rev, false⟩)) vl') 147) ∧ w7.turned w8 (fun x => x = q)) ⟨?_, ?_⟩ ?_
        · refine Hp.drew ?_
          rw [setCell_heapB, if_pos rfl, setCell_heapB, if_pos rfl, setCell_heapB, if_pos rfl, setCell_heapB, if_pos rfl, HW7.out, Below.heap_alloc _ _ _ hq6, HW6.out.1.blk]
          show some (Obj.cells _ _) = _
          rw [← rsC_setSs s' vl' i (n, ⟨ok, s'.rev, false⟩)]
        · exact (World.turned.set (S := fun x => x = q) (World.turned.set (S := fun x => x = q) (World.turned.set (S := fun x => x = q) (World.turned.set (S := fun x => x = q) (World.turned.refl w7 _) (fun _ => rfl) _) (fun _ => rfl) _) (fun _ => rfl) _) (fun _ => rfl) _).drew
        rintro w8 ⟨hq8, ht8⟩
        have hs8 := ht8.size
        have b7 : w8.heap[w6.heap.size]? = w7.heap[w6.heap.size]? := ht8.block _ (by omega) hqn
        have hr8 : w8.heap[w.heap.size + 1]? = some (.cells #[.bool false, .int .i64 0, .bool false] 72) := by
          rw [ht8.block _ (by omega) (by omega), HW7.out, Below.heap_alloc _ _ _ g2]; exact HR6.out
        have t0' := (World.cell?_of_block (a := ⟨w6.heap.size, 0, none⟩) b7).trans t0
        have t1' := (World.cell?_of_block (a := ⟨w6.heap.size, 1, none⟩) b7).trans t1
        have t2' := (World.cell?_of_block (a := ⟨w6.heap.size, 2, none⟩) b7).trans t2
        have HR8 : Hid (w8.heap[w.heap.size + 1]? = some (.cells #[.bool false, .int .i64 0, .bool false] 72)) := hr8
        obtain ⟨r0', r1', r2', rf'⟩ := res_cells (r := ⟨false, 0, false⟩) hr8
        have HEND : Hid (∀ W, w8.turned W (fun x => x = w.heap.size + 1) → RChg w W q vl ((s.done c).2.setSs i (n, (s.done c).1))) := by
          intro W hW
          have e1 : (s.done c).2.setSs i (n, (s.done c).1) = s'.setSs i (n, ⟨ok, s'.rev, false⟩) := by
            show ((s.act c).2).setSs i (n, ⟨(s.act c).1, (s.act c).2.rev, false⟩) = _
            rw [HOK.out, HS'.out]
          rw [e1]
          have hl := HW6.out.1
          have hvq : vl'.ownBlock ≠ some q := hl.off
          have hvr : vl'.ownBlock ≠ some (w.heap.size + 1) := own_type_ne hl.own HR6.out (by decide)
          have h8 : ∀ x, vl'.ownBlock = some x → W.heap[x]? = w6.heap[x]? := fun x hx => by
            have hlt := hl.own.lt hx
            rw [hW.block x (by omega) (fun e => hvr (e ▸ hx)), ht8.block x (by omega) (fun e => hvq (e ▸ hx)), HW7.out, Below.heap_alloc _ _ _ hlt]
          refine ⟨vl', l', ⟨?_, hl.own.keep h8, ⟨hl.tells.asc, hl.tells.vers⟩, ⟨hl.good.rev, hl.good.floor, hl.good.asc, hl.good.bd, by show (s'.ss.set i _).length = 8; rw [List.length_set]; exact hl.good.ss⟩⟩, fun x hx => (HW6.out.2.1 x hx).imp id fun h => by omega, ?_⟩
          · rw [hW.block q (by omega) (by omega)]; exact hq8
          · have a1 : w6.turned w7 (fun x => x = q) := by rw [HW7.out]; exact (World.turned.refl w6 _).alloc _
            have a2 : w5.turned w8 (footR q vl) := (HW6.out.2.2.trans a1 fun x _ e => .inl e).trans ht8 fun x _ e => .inl e
            have a3 : w.turned w8 (footR q vl) := (World.turned.of_below HB5.out _).trans a2 fun x _ e => e
            exact a3.trans hW fun x hx e => by omega
        clear ht8 hq8 b7 hr8 t0 t1 t2 k5 k6 y0 y1 y2 y3 hfro
        go_wp2_with fail
        refine world_any (F := fun W => W.heap[w.heap.size + 1]? = some (.cells #[.bool ok, .int .i64 s'.rev, .bool false] 72) ∧ w8.turned W (fun x => x = w.heap.size + 1)) ⟨res_set (r0 := ⟨false, 0, false⟩) (r := ⟨ok, s'.rev, false⟩) HR8.out, World.turned.set (S := fun x => x = w.heap.size + 1) (World.turned.set (S := fun x => x = w.heap.size + 1) (World.turned.set (S := fun x => x = w.heap.size + 1) (World.turned.refl w8 _) (fun _ => rfl) _) (fun _ => rfl) _) (fun _ => rfl) _⟩ ?_
        rintro W ⟨hW, hT⟩
        obtain ⟨z0, z1, z2, zf⟩ := res_cells (r := ⟨ok, s'.rev, false⟩) hW
        exact bodyPost_ret (v := .agg #[.bool ok, .int .i64 s'.rev, .bool false]) (by simp [results, Try.results112, go_sem, z0, z1, z2]) rfl ⟨by rw [HCC.out, HRS.out]; show _ = Ending.returned (Res.v ⟨(s.act c).1, (s.act c).2.rev, false⟩); rw [HOK.out, HS'.out]; rfl, by rw [HCC.out, HRS.out]; exact HEND.out W hT⟩
end Go.Proofs.Ytcbbnmodjnnbeaa
