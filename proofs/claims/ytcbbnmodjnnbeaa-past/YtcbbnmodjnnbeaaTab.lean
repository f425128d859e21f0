/- What Past has told so far: two lists side by side, the one of lists. -/
import Derived.Test.YtcbbnmodjnnbeaaRangeW
import Derived.Test.YtcbbnmodjnnbeaaDoW
set_option linter.unusedSimpArgs false
set_option linter.unusedVariables false
namespace Go.Proofs.Ytcbbnmodjnnbeaa
open Go.RowKit

theorem owns_ne {w : World} {e e' : TypeId} {sz sz' : Nat} {v v' : Value} {cs cs' : List (List Value)} (h : w.ownL e sz v cs) (h' : w.ownL e' sz' v' cs') (hne : e ≠ e') {x : Nat} (hx : v.ownBlock = some x) : v'.ownBlock ≠ some x := by
  intro hx'
  rcases h.1.2 with ⟨rfl, _⟩ | ⟨g, cap, cur, rfl, _, hb, _⟩
  · cases hx
  · rcases h'.1.2 with ⟨rfl, _⟩ | ⟨g', cap', cur', rfl, _, hb', _⟩
    · cases hx'
    · cases hx; cases hx'
      rw [hb] at hb'
      injection hb' with hb'
      injection hb' with _ h1 _
      exact hne h1
structure Tab (w : World) (v5 v6 : Value) (hs : List Value) (tl : List (List Fnd)) (bs : List Bool) : Prop where
  own5 : w.ownL 73 1 v5 (hs.map fun h => [h])
  own6 : w.ownL 4 1 v6 (bs.map fun b => [.bool b])
  rd : ∀ (j : Nat) (h : Value) (l : List Fnd), hs[j]? = some h → tl[j]? = some l → w.reads 3 h (l.map Fnd.cells)
  len : hs.length = tl.length
  dh : ∀ h ∈ hs, ∀ x, h.ownBlock = some x → x < w.heap.size ∧ v5.ownBlock ≠ some x ∧ v6.ownBlock ≠ some x
def tabF (v5 v6 : Value) (hs : List Value) (x : Nat) : Prop := v5.ownBlock = some x ∨ v6.ownBlock = some x ∨ ∃ h ∈ hs, h.ownBlock = some x
theorem Tab.lt {w : World} {v5 v6 : Value} {hs : List Value} {tl : List (List Fnd)} {bs : List Bool} (h : Tab w v5 v6 hs tl bs) {x : Nat} (hx : tabF v5 v6 hs x) : x < w.heap.size := by
  rcases hx with hx | hx | ⟨u, hu, hx⟩
  · exact h.own5.lt hx
  · exact h.own6.lt hx
  · exact (h.dh u hu x hx).1
theorem Tab.nil (w : World) : Tab w nilS nilS [] [] [] := ⟨World.ownL.nil _ _ _, World.ownL.nil _ _ _, fun j h l hj => by simp at hj, rfl, fun h hh => by cases hh⟩
theorem Tab.keep {w w' : World} {v5 v6 : Value} {hs : List Value} {tl : List (List Fnd)} {bs : List Bool} (h : Tab w v5 v6 hs tl bs) (hw : w.heap.size ≤ w'.heap.size) (hk : ∀ x, tabF v5 v6 hs x → w'.heap[x]? = w.heap[x]?) : Tab w' v5 v6 hs tl bs :=
  ⟨h.own5.keep fun x hx => hk x (.inl hx), h.own6.keep fun x hx => hk x (.inr (.inl hx)), fun j u l hj hl => (h.rd j u l hj hl).keep fun x hx => hk x (.inr (.inr ⟨u, List.mem_of_getElem? hj, hx⟩)), h.len, fun u hu x hx => ⟨Nat.lt_of_lt_of_le (h.dh u hu x hx).1 hw, (h.dh u hu x hx).2⟩⟩
/-- told grows by a nil. -/
theorem Tab.app5 {w w' : World} {v5 v5' v6 : Value} {hs : List Value} {tl : List (List Fnd)} {bs : List Bool} (h : Tab w v5 v6 hs tl bs) (ho : w'.ownL 73 1 v5' (hs.map (fun h => [h]) ++ [#[nilS].toList])) (hg : Grew w w' v5 v5') :
    Tab w' v5' v6 (hs ++ [nilS]) (tl ++ [[]]) bs ∧ ∀ x, tabF v5' v6 (hs ++ [nilS]) x → tabF v5 v6 hs x ∨ w.heap.size ≤ x := by
  have h5 : ∀ x, v5'.ownBlock = some x → v5.ownBlock = some x ∨ w.heap.size ≤ x := fun x hx => by
    rcases hg.own with h1 | h1
    · exact .inl (h1 ▸ hx)
    · exact .inr (h1 x hx)
  have hsz := hg.g.size
  refine ⟨⟨by rw [List.map_append]; exact ho, h.own6.grew hg fun x hx => owns_ne h.own6 h.own5 (by decide) hx, fun j u l hj hl => ?_, by simp [h.len], fun u hu x hx => ?_⟩, fun x hx => ?_⟩
  · rcases Nat.lt_or_ge j hs.length with hjl | hjl
    · rw [List.getElem?_append_left hjl] at hj
      rw [List.getElem?_append_left (by rw [← h.len]; exact hjl)] at hl
      exact (h.rd j u l hj hl).keep fun x hx => hg.keep (h.dh u (List.mem_of_getElem? hj) x hx).1 (h.dh u (List.mem_of_getElem? hj) x hx).2.1
    · rw [List.getElem?_append_right hjl] at hj
      rw [List.getElem?_append_right (by rw [← h.len]; exact hjl)] at hl
      have e1 := List.mem_of_getElem? hj
      have e2 := List.mem_of_getElem? hl
      rw [List.mem_singleton.1 e1, List.mem_singleton.1 e2]
      exact .inl ⟨rfl, rfl⟩
  · rcases List.mem_append.1 hu with hu | hu
    · obtain ⟨h1, h2, h3⟩ := h.dh u hu x hx
      refine ⟨by omega, fun e => ?_, h3⟩
      rcases h5 x e with h4 | h4
      · exact h2 h4
      · omega
    · rw [List.mem_singleton.1 hu] at hx; cases hx
  · rcases hx with hx | hx | ⟨u, hu, hx⟩
    · exact (h5 x hx).imp .inl id
    · exact .inl (.inr (.inl hx))
    · rcases List.mem_append.1 hu with hu | hu
      · exact .inl (.inr (.inr ⟨u, hu, hx⟩))
      · rw [List.mem_singleton.1 hu] at hx; cases hx
/-- have grows by a false. -/
theorem Tab.app6 {w w' : World} {v5 v6 v6' : Value} {hs : List Value} {tl : List (List Fnd)} {bs : List Bool} (h : Tab w v5 v6 hs tl bs) (ho : w'.ownL 4 1 v6' (bs.map (fun b => [.bool b]) ++ [#[Value.bool false].toList])) (hg : Grew w w' v6 v6') :
    Tab w' v5 v6' hs tl (bs ++ [false]) ∧ ∀ x, tabF v5 v6' hs x → tabF v5 v6 hs x ∨ w.heap.size ≤ x := by
  have h6 : ∀ x, v6'.ownBlock = some x → v6.ownBlock = some x ∨ w.heap.size ≤ x := fun x hx => by
    rcases hg.own with h1 | h1
    · exact .inl (h1 ▸ hx)
    · exact .inr (h1 x hx)
  have hsz := hg.g.size
  refine ⟨⟨h.own5.grew hg fun x hx => owns_ne h.own5 h.own6 (by decide) hx, by rw [List.map_append]; exact ho, fun j u l hj hl => (h.rd j u l hj hl).keep fun x hx => hg.keep (h.dh u (List.mem_of_getElem? hj) x hx).1 (h.dh u (List.mem_of_getElem? hj) x hx).2.2, h.len, fun u hu x hx => ?_⟩, fun x hx => ?_⟩
  · obtain ⟨h1, h2, h3⟩ := h.dh u hu x hx
    refine ⟨by omega, h2, fun e => ?_⟩
    rcases h6 x e with h4 | h4
    · exact h3 h4
    · omega
  · rcases hx with hx | hx | hx
    · exact .inl (.inl hx)
    · exact (h6 x hx).imp (fun h => .inr (.inl h)) id
    · exact .inl (.inr (.inr hx))
/-- told[k] is a new list. -/
theorem Tab.put5 {w w' : World} {v5 v6 : Value} {hs : List Value} {tl : List (List Fnd)} {bs : List Bool} (h : Tab w v5 v6 hs tl bs) (k : Nat) (u0 : Value) (l0 : List Fnd) (hr : w.reads 3 u0 (l0.map Fnd.cells)) (hu0 : ∀ x, u0.ownBlock = some x → v5.ownBlock ≠ some x ∧ v6.ownBlock ≠ some x)
    (ho : w'.ownL 73 1 v5 ((hs.map fun h => [h]).set k [u0])) (hg : Grew w w' v5 v5) :
    Tab w' v5 v6 (hs.set k u0) (tl.set k l0) bs ∧ ∀ x, tabF v5 v6 (hs.set k u0) x → tabF v5 v6 hs x ∨ u0.ownBlock = some x := by
  have hsz := hg.g.size
  have hmem : ∀ u, u ∈ hs.set k u0 → u ∈ hs ∨ u = u0 := fun u hu => List.mem_or_eq_of_mem_set hu
  refine ⟨⟨by rw [List.map_set]; exact ho, h.own6.grew hg fun x hx => owns_ne h.own6 h.own5 (by decide) hx, fun j u l hj hl => ?_, by simp [h.len], fun u hu x hx => ?_⟩, fun x hx => ?_⟩
  · by_cases hjk : k = j
    · subst hjk
      rw [List.getElem?_set] at hj hl
      rw [if_pos rfl] at hj hl
      split at hj
      · split at hl
        · injection hj with hj; injection hl with hl
          subst hj hl
          exact hr.keep fun x hx => hg.keep (reads_lt' hr hx) (hu0 x hx).1
        · cases hl
      · cases hj
    · rw [List.getElem?_set_ne hjk] at hj hl
      exact (h.rd j u l hj hl).keep fun x hx => hg.keep (h.dh u (List.mem_of_getElem? hj) x hx).1 (h.dh u (List.mem_of_getElem? hj) x hx).2.1
  · rcases hmem u hu with hu | rfl
    · exact ⟨Nat.lt_of_lt_of_le (h.dh u hu x hx).1 hsz, (h.dh u hu x hx).2⟩
    · exact ⟨Nat.lt_of_lt_of_le (reads_lt' hr hx) hsz, hu0 x hx⟩
  · rcases hx with hx | hx | ⟨u, hu, hx⟩
    · exact .inl (.inl hx)
    · exact .inl (.inr (.inl hx))
    · rcases hmem u hu with hu | rfl
      · exact .inl (.inr (.inr ⟨u, hu, hx⟩))
      · exact .inr hx
/-- have[k] is true. -/
theorem Tab.put6 {w w' : World} {v5 v6 : Value} {hs : List Value} {tl : List (List Fnd)} {bs : List Bool} (h : Tab w v5 v6 hs tl bs) (k : Nat) (b0 : Bool) (ho : w'.ownL 4 1 v6 ((bs.map fun b => [.bool b]).set k [.bool b0])) (hg : Grew w w' v6 v6) : Tab w' v5 v6 hs tl (bs.set k b0) := by
  have hsz := hg.g.size
  exact ⟨h.own5.grew hg fun x hx => owns_ne h.own5 h.own6 (by decide) hx, by rw [List.map_set]; exact ho, fun j u l hj hl => (h.rd j u l hj hl).keep fun x hx => hg.keep (h.dh u (List.mem_of_getElem? hj) x hx).1 (h.dh u (List.mem_of_getElem? hj) x hx).2.2, h.len, fun u hu x hx => ⟨Nat.lt_of_lt_of_le (h.dh u hu x hx).1 hsz, (h.dh u hu x hx).2⟩⟩

/-- A cell of what is owned is written. -/
theorem World.ownL.setCell {w : World} {e : TypeId} {sz : Nat} {g n cap : Nat} {cs : List (List Value)} (h : w.ownL e sz (.slice (some ⟨g, 0, none⟩) n cap) cs) {i j : Nat} {c : List Value} (hi : cs[i]? = some c) (hj : j < sz) (u : Value) :
    (w.setCell ⟨g, i * sz + j, none⟩ u).ownL e sz (.slice (some ⟨g, 0, none⟩) n cap) (cs.set i (c.set j u)) := by
  have hil : i < cs.length := (List.getElem?_eq_some_iff.1 hi).1
  have hcl : c.length = sz := h.2 c (List.mem_of_getElem? hi)
  obtain ⟨h1, h2⟩ := h
  have h2' : ∀ d ∈ cs.set i (c.set j u), d.length = sz := fun d hd => by
    rcases List.mem_or_eq_of_mem_set hd with hd | rfl
    · exact h2 d hd
    · rw [List.length_set]; exact hcl
  rcases h1.2 with ⟨hv, _⟩ | ⟨g', cap', cur, hv, hg, hb, r1, r2, r3, r4⟩
  · cases hv
  · injection hv with e1 e2 e3
    injection e1 with e1
    injection e1 with e1
    subst e1 e2 e3
    have hle : i * sz + j < cs.length * sz := by have := mul_lt_of_lt i cs.length sz hil; omega
    have hlec : cs.length * sz ≤ cap * sz := Nat.mul_le_mul_right _ r1
    have hfl : (cs.set i (c.set j u)).flatten = cs.flatten.set (i * sz + j) u := by
      apply List.ext_getElem?
      intro m
      have hl1 : (cs.set i (c.set j u)).flatten.length = cs.length * sz := by rw [flatten_len sz _ h2', List.length_set]
      have hl2 : cs.flatten.length = cs.length * sz := flatten_len sz _ h2
      by_cases hm : m < cs.length * sz
      · have hsz : 0 < sz := by omega
        have hq : m / sz < cs.length := (Nat.div_lt_iff_lt_mul hsz).2 hm
        have hr := Nat.mod_lt m hsz
        have hm2 : m / sz * sz + m % sz = m := by rw [Nat.mul_comm]; exact Nat.div_add_mod m sz
        by_cases hqi : m / sz = i
        · have e1 := flatten_at sz _ (m / sz) (c.set j u) h2' (by rw [hqi, List.getElem?_set_self hil]) (m % sz) hr
          have e2 := flatten_at sz _ (m / sz) c h2 (by rw [hqi]; exact hi) (m % sz) hr
          rw [hm2] at e1 e2
          rw [e1, List.getElem?_set, List.getElem?_set, e2]
          by_cases hjm : j = m % sz
          · subst hjm
            have : i * sz + m % sz = m := by rw [← hqi]; exact hm2
            rw [if_pos rfl, if_pos this, if_pos (by omega), if_pos (by omega)]
          · rw [if_neg hjm, if_neg (by rw [← hqi]; omega)]
        · have e1 := flatten_at sz _ (m / sz) cs[m / sz] h2' (by rw [List.getElem?_set_ne (fun e => hqi e.symm), List.getElem?_eq_getElem hq]) (m % sz) hr
          have e2 := flatten_at sz _ (m / sz) cs[m / sz] h2 (List.getElem?_eq_getElem hq) (m % sz) hr
          rw [hm2] at e1 e2
          rw [e1, List.getElem?_set_ne, e2]
          intro hx
          have h5 : (i * sz + j) / sz = i := by rw [Nat.mul_comm, Nat.mul_add_div hsz, Nat.div_eq_of_lt hj]; omega
          exact hqi (by rw [← hx]; exact h5)
      · rw [List.getElem?_eq_none (by omega), List.getElem?_eq_none (by rw [List.length_set]; omega)]
    refine ⟨⟨by rw [flatten_len sz _ h2'], .inr ⟨g, cap, cur.setIfInBounds (i * sz + j) u, by rw [List.length_set], hg, ?_, by rw [List.length_set]; exact r1, r2, by simp [r3], ?_⟩⟩, h2'⟩
    · rw [setCell_heapB, if_pos rfl, hb]; rfl
    · rw [List.length_set, hfl, ← r4]
      apply List.ext_getElem?
      intro m
      rw [List.getElem?_set]
      by_cases hm : m < cs.length * sz
      · rw [List.getElem?_take_of_lt hm, Array.toList_setIfInBounds, List.getElem?_set, List.length_take, Array.length_toList]
        by_cases hx : i * sz + j = m
        · rw [if_pos hx, if_pos hx, if_pos (by omega), if_pos (by omega)]
        · rw [if_neg hx, if_neg hx, List.getElem?_take_of_lt hm]
      · rw [List.getElem?_eq_none (by rw [List.length_take]; omega), if_neg (by omega), List.getElem?_eq_none (by rw [List.length_take]; omega)]
end Go.Proofs.Ytcbbnmodjnnbeaa
