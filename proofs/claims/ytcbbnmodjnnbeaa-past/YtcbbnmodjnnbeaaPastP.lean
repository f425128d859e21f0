/- What holds on Past's way: memory and meaning. -/
import Derived.Test.YtcbbnmodjnnbeaaTab
import Derived.Test.YtcbbnmodjnnbeaaHoldsP
import Derived.Test.YtcbbnmodjnnbeaaKnownL
set_option linter.unusedSimpArgs false
set_option linter.unusedVariables false
namespace Go.Proofs.Ytcbbnmodjnnbeaa
open Go.RowKit

structure PMem (w0 wr : World) (p b : Nat) (D : DataW Value) (s : St) (v4 v5 v6 : Value) (ls : List Cmd) (hs : List Value) (tl : List (List Fnd)) (bs : List Bool) : Prop where
  store : StoreAt wr p b D s
  sge : ∀ x, footS p b D x → w0.heap.size ≤ x
  own4 : wr.ownL 23 7 v4 (ls.map Cmd.cells)
  tab : Tab wr v5 v6 hs tl bs
  ge4 : ∀ x, v4.ownBlock = some x → w0.heap.size ≤ x ∧ ¬ footS p b D x ∧ ¬ tabF v5 v6 hs x
  geT : ∀ x, tabF v5 v6 hs x → w0.heap.size ≤ x ∧ ¬ footS p b D x
  below : Below w0.heap.size w0 wr
variable {w0 wr W : World} {p b : Nat} {D D' : DataW Value} {s s' : St} {v4 v5 v6 v5' v6' : Value} {ls ls' : List Cmd} {hs hs' : List Value} {tl tl' : List (List Fnd)} {bs bs' : List Bool}
theorem PMem.grow (h : PMem w0 wr p b D s v4 v5 v6 ls hs tl bs) (hb : Below wr.heap.size wr W) : PMem w0 W p b D s v4 v5 v6 ls hs tl bs :=
  ⟨h.store.grown hb, h.sge, h.own4.keep fun x hx => hb.block x (h.own4.lt hx), h.tab.keep hb.size fun x hx => hb.block x (h.tab.lt hx), h.ge4, h.geT, h.below.trans (hb.mono h.below.size)⟩
theorem PMem.put4 (h : PMem w0 wr p b D s v4 v5 v6 ls hs tl bs) (ho : W.ownL 23 7 v4 (ls'.map Cmd.cells)) (ht : wr.turned W (fun x => v4.ownBlock = some x)) : PMem w0 W p b D s v4 v5 v6 ls' hs tl bs := by
  have hS : ∀ x, footS p b D x → W.heap[x]? = wr.heap[x]? := fun x hx => ht.block x (h.store.foot_lt hx) fun e => (h.ge4 x e).2.1 hx
  refine ⟨⟨(hS p (.inl rfl)).trans h.store.blk, h.store.map.keep fun x hx => hS x (.inr hx), h.store.good, h.store.sz⟩, h.sge, ho, h.tab.keep ht.size fun x hx => ht.block x (h.tab.lt hx) fun e => (h.ge4 x e).2.2 hx, h.ge4, h.geT, ?_⟩
  exact h.below.trans ⟨ht.os, ht.tape, ht.output, ht.size, fun k hk => ht.block k (Nat.lt_of_lt_of_le hk h.below.size) fun e => by have := (h.ge4 k e).1; omega⟩
theorem PMem.act (h : PMem w0 wr p b D s v4 v5 v6 ls hs tl bs) (h1 : StoreAt W p b D' s') (h2 : ∀ x, footM b D' x → footM b D x ∨ wr.heap.size ≤ x) (h3 : wr.turned W (footS p b D)) : PMem w0 W p b D' s' v4 v5 v6 ls hs tl bs := by
  have hn : ∀ x, x < wr.heap.size → ¬ footS p b D x → W.heap[x]? = wr.heap[x]? ∧ ¬ footS p b D' x := fun x hx hf => Chg.keep h2 h3 hx hf
  have hb := h.below.size
  refine ⟨h1, fun x hx => ?_, h.own4.keep fun x hx => (hn x (h.own4.lt hx) (h.ge4 x hx).2.1).1, h.tab.keep h3.size fun x hx => (hn x (h.tab.lt hx) (h.geT x hx).2).1, fun x hx => ⟨(h.ge4 x hx).1, (hn x (h.own4.lt hx) (h.ge4 x hx).2.1).2, (h.ge4 x hx).2.2⟩, fun x hx => ⟨(h.geT x hx).1, (hn x (h.tab.lt hx) (h.geT x hx).2).2⟩, ?_⟩
  · rcases hx with rfl | hx
    · exact h.sge x (.inl rfl)
    · rcases h2 x hx with h4 | h4
      · exact h.sge x (.inr h4)
      · omega
  · exact h.below.trans ⟨h3.os, h3.tape, h3.output, h3.size, fun k hk => h3.block k (by omega) fun e => by have := h.sge k e; omega⟩
theorem PMem.turn (h : PMem w0 wr p b D s v4 v5 v6 ls hs tl bs) (hT : Tab W v5' v6' hs' tl' bs') (ht : wr.turned W (fun x => tabF v5 v6 hs x)) (hn : ∀ x, tabF v5' v6' hs' x → tabF v5 v6 hs x ∨ (w0.heap.size ≤ x ∧ ¬ footS p b D x ∧ v4.ownBlock ≠ some x)) : PMem w0 W p b D s v4 v5' v6' ls hs' tl' bs' := by
  have hS : ∀ x, footS p b D x → W.heap[x]? = wr.heap[x]? := fun x hx => ht.block x (h.store.foot_lt hx) fun e => (h.geT x e).2 hx
  refine ⟨⟨(hS p (.inl rfl)).trans h.store.blk, h.store.map.keep fun x hx => hS x (.inr hx), h.store.good, h.store.sz⟩, h.sge, h.own4.keep fun x hx => ht.block x (h.own4.lt hx) (h.ge4 x hx).2.2, hT, fun x hx => ⟨(h.ge4 x hx).1, (h.ge4 x hx).2.1, fun e => ?_⟩, fun x hx => ?_, ?_⟩
  · rcases hn x e with h1 | h1
    · exact (h.ge4 x hx).2.2 h1
    · exact h1.2.2 hx
  · rcases hn x hx with h1 | h1
    · exact h.geT x h1
    · exact ⟨h1.1, h1.2.1⟩
  · exact h.below.trans ⟨ht.os, ht.tape, ht.output, ht.size, fun k hk => ht.block k (Nat.lt_of_lt_of_le hk h.below.size) fun e => by have := (h.geT k e).1; omega⟩
theorem PMem.fresh (h : PMem w0 wr p b D s v4 v5 v6 ls hs tl bs) {x : Nat} (hx : wr.heap.size ≤ x) : w0.heap.size ≤ x ∧ ¬ footS p b D x ∧ v4.ownBlock ≠ some x :=
  ⟨Nat.le_trans h.below.size hx, fun e => by have := h.store.foot_lt e; omega, fun e => by have := h.own4.lt e; omega⟩
theorem PMem.app5 (h : PMem w0 wr p b D s v4 v5 v6 ls hs tl bs) (ho : W.ownL 73 1 v5' (hs.map (fun h => [h]) ++ [#[nilS].toList])) (hg : Grew wr W v5 v5') : PMem w0 W p b D s v4 v5' v6 ls (hs ++ [nilS]) (tl ++ [[]]) bs := by
  obtain ⟨h1, h2⟩ := h.tab.app5 ho hg
  exact h.turn h1 ((World.turned.of_grew hg).mono fun x _ hx => .inl hx) fun x hx => (h2 x hx).imp id h.fresh
theorem PMem.app6 (h : PMem w0 wr p b D s v4 v5 v6 ls hs tl bs) (ho : W.ownL 4 1 v6' (bs.map (fun b => [.bool b]) ++ [#[Value.bool false].toList])) (hg : Grew wr W v6 v6') : PMem w0 W p b D s v4 v5 v6' ls hs tl (bs ++ [false]) := by
  obtain ⟨h1, h2⟩ := h.tab.app6 ho hg
  exact h.turn h1 ((World.turned.of_grew hg).mono fun x _ hx => .inr (.inl hx)) fun x hx => (h2 x hx).imp id h.fresh
theorem PMem.put5 (h : PMem w0 wr p b D s v4 v5 v6 ls hs tl bs) (k : Nat) (u0 : Value) (l0 : List Fnd) (hr : wr.reads 3 u0 (l0.map Fnd.cells)) (hu : ∀ x, u0.ownBlock = some x → w0.heap.size ≤ x ∧ ¬ footS p b D x ∧ v4.ownBlock ≠ some x ∧ ¬ tabF v5 v6 hs x)
    (ho : W.ownL 73 1 v5 ((hs.map fun h => [h]).set k [u0])) (hg : Grew wr W v5 v5) : PMem w0 W p b D s v4 v5 v6 ls (hs.set k u0) (tl.set k l0) bs := by
  obtain ⟨h1, h2⟩ := h.tab.put5 k u0 l0 hr (fun x hx => ⟨fun e => (hu x hx).2.2.2 (.inl e), fun e => (hu x hx).2.2.2 (.inr (.inl e))⟩) ho hg
  exact h.turn h1 ((World.turned.of_grew hg).mono fun x _ hx => .inl hx) fun x hx => (h2 x hx).imp id fun e => ⟨(hu x e).1, (hu x e).2.1, (hu x e).2.2.1⟩
theorem PMem.put6 (h : PMem w0 wr p b D s v4 v5 v6 ls hs tl bs) (k : Nat) (b0 : Bool) (ho : W.ownL 4 1 v6 ((bs.map fun b => [.bool b]).set k [.bool b0])) (hg : Grew wr W v6 v6) : PMem w0 W p b D s v4 v5 v6 ls hs tl (bs.set k b0) :=
  h.turn (h.tab.put6 k b0 ho hg) ((World.turned.of_grew hg).mono fun x _ hx => .inr (.inl hx)) fun x hx => .inl hx

/-! ### Meaning -/
structure PLog (s : St) (m : Nat) (tl : List (List Fnd)) (bs : List Bool) : Prop where
  len : bs.length = tl.length
  top : tl.length ≤ s.rev + 1
  r4 : 4 ≤ s.rev
  good : Good s
  full : ∀ j : Nat, 5 ≤ j → j ≤ m → bs[j]? = some true
  ok : ∀ (j : Nat) (l : List Fnd), bs[j]? = some true → tl[j]? = some l → s.floor ≤ j → ∃ l', RangeIs s xN xN j l' ∧ l = l'.take 1000
theorem act_rev (s : St) (c : Cmd) : ((s.act c).1 = true ∧ c.kind ≠ 4 ∧ c.kind ≠ 0 ∧ 0 ≤ c.kind ∧ c.kind ≤ 4 → (s.act c).2.rev = s.rev + 1) ∧ (¬ ((s.act c).1 = true ∧ c.kind ≠ 4 ∧ c.kind ≠ 0) → (s.act c).2.rev = s.rev) ∧ s.floor ≤ (s.act c).2.floor := by
  have lay : ∀ (a v : ByteArray) (g : Bool), ((s.tryLay a v g).1 = true → (s.tryLay a v g).2.rev = s.rev + 1) ∧ ((s.tryLay a v g).1 = false → (s.tryLay a v g).2.rev = s.rev) ∧ (s.tryLay a v g).2.floor = s.floor := by
    intro a v g
    unfold St.tryLay
    split <;> simp [St.lay]
  by_cases h1 : c.kind = 1
  · have e : s.act c = s.tryLay c.key c.val false := by unfold St.act; rw [if_pos h1]
    have := lay c.key c.val false
    rw [e]
    refine ⟨fun h => this.1 h.1, fun h => this.2.1 ?_, by rw [this.2.2]; exact Nat.le_refl _⟩
    cases hb : (s.tryLay c.key c.val false).1
    · rfl
    · exact absurd ⟨hb, by omega, by omega⟩ h
  · by_cases h3 : c.kind = 3
    · by_cases hc : (atV (s.vers c.key) s.rev).gone = false ∧ (atV (s.vers c.key) s.rev).val = c.old
      · have e : s.act c = s.tryLay c.key c.val false := by unfold St.act; rw [if_neg h1, if_pos h3, if_pos hc]
        have := lay c.key c.val false
        rw [e]
        refine ⟨fun h => this.1 h.1, fun h => this.2.1 ?_, by rw [this.2.2]; exact Nat.le_refl _⟩
        cases hb : (s.tryLay c.key c.val false).1
        · rfl
        · exact absurd ⟨hb, by omega, by omega⟩ h
      · have e : s.act c = (false, s) := by unfold St.act; rw [if_neg h1, if_pos h3, if_neg hc]
        rw [e]
        exact ⟨(fun h => by cases h.1), fun _ => rfl, Nat.le_refl _⟩
    · by_cases h2 : c.kind = 2
      · by_cases hc : (atV (s.vers c.key) s.rev).gone = false
        · have e : s.act c = s.tryLay c.key ⟨#[]⟩ true := by unfold St.act; rw [if_neg h1, if_neg h3, if_pos h2, if_pos hc]
          have := lay c.key ⟨#[]⟩ true
          rw [e]
          refine ⟨fun h => this.1 h.1, fun h => this.2.1 ?_, by rw [this.2.2]; exact Nat.le_refl _⟩
          cases hb : (s.tryLay c.key ⟨#[]⟩ true).1
          · rfl
          · exact absurd ⟨hb, by omega, by omega⟩ h
        · have e : s.act c = (false, s) := by unfold St.act; rw [if_neg h1, if_neg h3, if_pos h2, if_neg hc]
          rw [e]
          exact ⟨(fun h => by cases h.1), fun _ => rfl, Nat.le_refl _⟩
      · by_cases h4 : c.kind = 4
        · by_cases hc : (s.floor : Int) < c.rev ∧ c.rev ≤ s.rev
          · have e : s.act c = (true, s.raise c.rev.toNat) := by unfold St.act; rw [if_neg h1, if_neg h3, if_neg h2, if_pos h4, if_pos hc]
            rw [e]
            exact ⟨fun h => absurd h4 h.2.1, fun _ => rfl, by show s.floor ≤ c.rev.toNat; omega⟩
          · have e : s.act c = (false, s) := by unfold St.act; rw [if_neg h1, if_neg h3, if_neg h2, if_pos h4, if_neg hc]
            rw [e]
            exact ⟨(fun h => by cases h.1), fun _ => rfl, Nat.le_refl _⟩
        · have e : s.act c = (true, s) := by unfold St.act; rw [if_neg h1, if_neg h3, if_neg h2, if_neg h4]
          rw [e]
          exact ⟨(fun h => by omega), fun _ => rfl, Nat.le_refl _⟩
theorem PLog.act {c : Cmd} (h : PLog s s.rev tl bs) (hg : Good (s.act c).2) : PLog (s.act c).2 s.rev tl bs := by
  obtain ⟨h1, h2, h3⟩ := act_rev s c
  have hr : s.rev ≤ (s.act c).2.rev := by
    by_cases hc : (s.act c).1 = true ∧ c.kind ≠ 4 ∧ c.kind ≠ 0
    · by_cases hk : 0 ≤ c.kind ∧ c.kind ≤ 4
      · have := h1 ⟨hc.1, hc.2.1, hc.2.2, hk.1, hk.2⟩; omega
      · have e : s.act c = (true, s) := by unfold St.act; rw [if_neg (by omega), if_neg (by omega), if_neg (by omega), if_neg (by omega)]
        rw [e]; exact Nat.le_refl _
    · rw [h2 hc]; exact Nat.le_refl _
  refine ⟨h.len, by have := h.top; omega, by have := h.r4; omega, hg, h.full, fun j l hb hl hj => ?_⟩
  obtain ⟨l', hl', e⟩ := h.ok j l hb hl (by omega)
  have hjl : j < tl.length := (List.getElem?_eq_some_iff.1 hl).1
  refine ⟨l', ⟨hl'.asc, fun f => ?_⟩, e⟩
  rw [hl'.mem, look_act s h.good c j (by have := h.top; omega) hj]
theorem PLog.grow {m : Nat} (h : PLog s m tl bs) (hl : tl.length ≤ s.rev) : PLog s m (tl ++ [[]]) (bs ++ [false]) := by
  have hlen := h.len
  refine ⟨by simp [hlen], by simp; omega, h.r4, h.good, fun j h1 h2 => ?_, fun j l hb ht hj => ?_⟩
  · have := h.full j h1 h2
    rw [List.getElem?_append_left (List.getElem?_eq_some_iff.1 this).1]; exact this
  · have hjl : j < bs.length := by
      rcases Nat.lt_or_ge j bs.length with h1 | h1
      · exact h1
      · rw [List.getElem?_append_right h1] at hb
        have := List.mem_of_getElem? hb
        simp at this
    rw [List.getElem?_append_left hjl] at hb
    rw [List.getElem?_append_left (by omega)] at ht
    exact h.ok j l hb ht hj
theorem PLog.put {m : Nat} (h : PLog s m tl bs) (hl : s.rev < tl.length) {l' : List Fnd} (hr : RangeIs s xN xN s.rev l') (hm : s.rev ≤ m + 1) : PLog s s.rev (tl.set s.rev (l'.take 1000)) (bs.set s.rev true) := by
  have hlen := h.len
  refine ⟨by simp [hlen], by simp; exact h.top, h.r4, h.good, fun j h1 h2 => ?_, fun j l hb ht hj => ?_⟩
  · rw [List.getElem?_set]
    by_cases e : s.rev = j
    · rw [if_pos e, if_pos (by omega)]
    · rw [if_neg e]; exact h.full j h1 (by omega)
  · rw [List.getElem?_set] at hb ht
    by_cases e : s.rev = j
    · rw [if_pos e, if_pos (by omega)] at ht
      injection ht with ht
      subst e
      exact ⟨l', hr, ht.symm⟩
    · rw [if_neg e] at hb ht
      exact h.ok j l hb ht hj
theorem PLog.has {m : Nat} (h : PLog s m tl bs) (hb : bs[s.rev]? = some true) (hm : s.rev ≤ m + 1) : PLog s s.rev tl bs := by
  refine ⟨h.len, h.top, h.r4, h.good, fun j h1 h2 => ?_, h.ok⟩
  by_cases e : j = s.rev
  · rw [e]; exact hb
  · exact h.full j h1 (by omega)

/-! ### Steps -/
def Cmd.bare (c : Cmd) : Cmd := { c with ses := 0, seq := 0 }
theorem bare_may {c : Cmd} (h : c.may = true) : c.bare.may = true := by
  have h0 : sesB c.bare = true := rfl
  unfold Cmd.may at h ⊢
  show (if c.kind = 0 then Cmd.same c.bare Cmd.zero else _) = true
  by_cases k0 : c.kind = 0
  · rw [if_pos k0] at h ⊢
    rw [Cmd.same_iff] at h ⊢
    rw [h]; rfl
  · rw [if_neg k0] at h ⊢
    show (if c.kind = 1 then sesB c.bare && keyB c.key && valB c.val && noB c.old && (c.rev == 0) else if c.kind = 2 then sesB c.bare && keyB c.key && noB c.val && noB c.old && (c.rev == 0) else if c.kind = 3 then sesB c.bare && keyB c.key && valB c.val && valB c.old && (c.rev == 0) else if c.kind = 4 then sesB c.bare && noB c.key && noB c.val && noB c.old && numB c.rev else false) = true
    rw [h0]
    by_cases k1 : c.kind = 1
    · rw [if_pos k1] at h ⊢
      simp only [Bool.and_eq_true] at h ⊢
      exact ⟨⟨⟨⟨trivial, h.1.1.1.2⟩, h.1.1.2⟩, h.1.2⟩, h.2⟩
    · rw [if_neg k1] at h ⊢
      by_cases k2 : c.kind = 2
      · rw [if_pos k2] at h ⊢
        simp only [Bool.and_eq_true] at h ⊢
        exact ⟨⟨⟨⟨trivial, h.1.1.1.2⟩, h.1.1.2⟩, h.1.2⟩, h.2⟩
      · rw [if_neg k2] at h ⊢
        by_cases k3 : c.kind = 3
        · rw [if_pos k3] at h ⊢
          simp only [Bool.and_eq_true] at h ⊢
          exact ⟨⟨⟨⟨trivial, h.1.1.1.2⟩, h.1.1.2⟩, h.1.2⟩, h.2⟩
        · rw [if_neg k3] at h ⊢
          by_cases k4 : c.kind = 4
          · rw [if_pos k4] at h ⊢
            simp only [Bool.and_eq_true] at h ⊢
            exact ⟨⟨⟨⟨trivial, h.1.1.1.2⟩, h.1.1.2⟩, h.1.2⟩, h.2⟩
          · rw [if_neg k4] at h; cases h
theorem Cmd.at_own {a : Option Addr} {n cap k : Nat} (h : W.ownL 23 7 (.slice a n cap) (ls.map Cmd.cells)) (hk : k < ls.length) : ∃ g, a = some ⟨g, 0, none⟩ ∧ g < W.heap.size ∧ (∀ o, W.frozen? ⟨g, o, none⟩ = false) ∧ W.rangeAt g (k * 7) ls[k].cells := by
  obtain ⟨g, o, rfl, hg, hv⟩ := Cmd.at_reads h.reads hk
  obtain ⟨e, _⟩ := h.off0 (g := g) rfl
  injection e with e
  injection e with _ e
  subst e
  refine ⟨g, rfl, hg, fun o => ?_, by simpa using hv⟩
  rcases h.1.2 with ⟨hv, _⟩ | ⟨g', cap', cur, hv, _, hb, _⟩
  · cases hv
  · injection hv with e1
    injection e1 with e1
    injection e1 with e1
    subst e1
    simp [World.frozen?, hb]
/-- The two stores 'l[i].Session = 0', 'l[i].Seq = 0'. -/
theorem PMem.bare {g n cap k : Nat} (h : PMem w0 wr p b D s (.slice (some ⟨g, 0, none⟩) n cap) v5 v6 ls hs tl bs) (hk : k < ls.length) : PMem w0 ((wr.setCell ⟨g, k * 7 + 5, none⟩ (.int .i64 0)).setCell ⟨g, k * 7 + 6, none⟩ (.int .i64 0)) p b D s (.slice (some ⟨g, 0, none⟩) n cap) v5 v6 (ls.set k ls[k].bare) hs tl bs := by
  have e1 : (ls.map Cmd.cells)[k]? = some ls[k].cells := by rw [List.getElem?_map, List.getElem?_eq_getElem hk]; rfl
  have o1 := World.ownL.setCell h.own4 e1 (j := 5) (by decide) (.int .i64 0)
  have e2 : ((ls.map Cmd.cells).set k (ls[k].cells.set 5 (.int .i64 0)))[k]? = some (ls[k].cells.set 5 (.int .i64 0)) := by rw [List.getElem?_set_self (by simpa using hk)]
  have o2 := World.ownL.setCell o1 e2 (j := 6) (by decide) (.int .i64 0)
  rw [List.set_set] at o2
  have e3 : (ls.map Cmd.cells).set k ((ls[k].cells.set 5 (.int .i64 0)).set 6 (.int .i64 0)) = (ls.set k ls[k].bare).map Cmd.cells := by rw [List.map_set]; rfl
  rw [e3] at o2
  have t0 : wr.turned wr (fun x => (Value.slice (some ⟨g, 0, none⟩) n cap).ownBlock = some x) := World.turned.refl wr _
  have t1 := World.turned.set t0 (p := ⟨g, k * 7 + 5, none⟩) (fun _ => rfl) (.int .i64 0)
  have t2 := World.turned.set t1 (p := ⟨g, k * 7 + 6, none⟩) (fun _ => rfl) (.int .i64 0)
  exact PMem.put4 h o2 t2
theorem pastDo (hS : StoreAt W p b D s) (q : Nat) (hq : ¬ footS p b D q) (c : Cmd) (hc : W.heap[q]? = some (.cells #[.int .i64 c.kind, .string c.key, .string c.val, .string c.old, .int .i64 c.rev, .int .i64 c.ses, .int .i64 c.seq] 23)) (hm : c.may = true) (h0 : c.ses = 0) :
    Calls Try.prog 31 #[.pointer (some ⟨p, 0, none⟩), .slice (some ⟨q, 0, none⟩) 1 1] W fun e w' => ∃ g D', e = .returned (.tuple #[.slice (some ⟨g, 0, none⟩) 1 1, .int .i64 0]) ∧ g < w'.heap.size ∧ w'.cell? ⟨g, 0, none⟩ = some (.bool (s.act c).1) ∧ w'.cell? ⟨g, 1, none⟩ = some (.int .i64 (s.act c).2.rev) ∧ w'.cell? ⟨g, 2, none⟩ = some (.bool false) ∧
      StoreAt w' p b D' (s.act c).2 ∧ (∀ x, footM b D' x → footM b D x ∨ W.heap.size ≤ x) ∧ W.turned w' (footS p b D) := by
  refine (storeDoYes W p b D s hS _ 1 [c] (reads_one hc) (fun k hk => by cases hk; exact hq) (by simp) (fun x hx => by rw [List.mem_singleton.1 hx]; exact hm)).mono ?_
  rintro e w' ⟨g, D', rfl, ho, _, _, hS', hF, ht⟩
  have e1 : doAll s [c] = ([⟨(s.act c).1, (s.act c).2.rev, false⟩], (s.act c).2) := by
    show ([(s.result c).1], (s.result c).2) = _
    unfold St.result
    rw [if_pos h0]; rfl
  rw [e1] at ho hS'
  rcases ho.reads with ⟨h2, _⟩ | ⟨g', off, cap, hv, hg', hcell⟩
  · cases h2
  · injection hv with e1 e2 e3
    injection e1 with e1
    injection e1 with e4 e5 _
    subst e4 e5
    obtain ⟨_, h3⟩ := hcell 0 _ rfl
    exact ⟨g, D', rfl, hg', h3 0 _ rfl, h3 1 _ rfl, h3 2 _ rfl, hS', hF, ht⟩
end Go.Proofs.Ytcbbnmodjnnbeaa
