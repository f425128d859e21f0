/- The walk of the store's raise: the floor comes up, and what nobody can ask for is forgotten. -/
import Derived.Test.YtcbbnmodjnnbeaaLay
import Derived.Test.YtcbbnmodjnnbeaaDel
import Derived.Test.YtcbbnmodjnnbeaaHRange
import Derived.Test.YtcbbnmodjnnbeaaMarks
set_option linter.unusedSimpArgs false
set_option linter.unusedVariables false
namespace Go.Proofs.Ytcbbnmodjnnbeaa
open Go.RowKit

def St.raise (s : St) (f : Nat) : St := { s with floor := f, vers := fun k => (s.vers k).drop (dropN (s.vers k) f) }
theorem raiseNo (w : World) (p b : Nat) (D : DataW Value) (s : St) (h : StoreAt w p b D s) (f : Int) (hf : f ≤ s.floor ∨ (s.rev : Int) < f) :
    Calls Try.prog 166 #[.pointer (some ⟨p, 0, none⟩), .int .i64 f] w fun e w' => e = .returned (.bool false) ∧ w' = w := by
  obtain ⟨c0, c1, c2, cf⟩ := st_cells h.blk
  clear h
  by_cases hf1 : f ≤ s.floor
  · go_enter Try.func166, Try.ntmps166
    go_wp2
    go_ret
    exact ⟨rfl, rfl⟩
  · have hf2 : (s.rev : Int) < f := by omega
    go_enter Try.func166, Try.ntmps166
    go_wp2
    go_ret
    exact ⟨rfl, rfl⟩
theorem str_inv (key : Value) (l : Lit) (h : keyOf Try.prog 9 key = some l) : ∃ k : ByteArray, key = .string k ∧ l = kl k ∧ k.size ≤ maxLen := by
  cases key <;> simp [keyOf, Try.underlying9, mapKey] at h
  obtain ⟨h1, h2⟩ := h
  exact ⟨_, rfl, h2.symm, h1⟩

theorem hdAt_put {D : DataW Value} (hD : Go.Maps.IsMap D) (key : ByteArray) (v' : Value) (k : ByteArray) (u : Value) : hdAt (D.put (kl key) (.held v')) k u ↔ (k = key ∧ u = v') ∨ (k ≠ key ∧ hdAt D k u) := by
  by_cases hk : k = key
  · subst hk
    unfold hdAt
    rw [Maps.atKey_put_same hD (kl_key k)]
    constructor
    · intro e; injection e with e; exact .inl ⟨rfl, e.symm⟩
    · rintro (⟨_, rfl⟩ | ⟨hn, _⟩)
      · rfl
      · exact absurd rfl hn
  · unfold hdAt
    rw [Maps.atKey_put_other (fun e => hk (kl_inj e))]
    constructor
    · exact fun e => .inr ⟨hk, e⟩
    · rintro (⟨hn, _⟩ | ⟨_, e⟩)
      · exact absurd hn hk
      · exact e
theorem hdAt_del {D : DataW Value} (key : ByteArray) (k : ByteArray) (u : Value) : hdAt (D.del (kl key)) k u ↔ (k = key ∧ u = nilS) ∨ (k ≠ key ∧ hdAt D k u) := by
  by_cases hk : k = key
  · subst hk
    unfold hdAt
    rw [Maps.atKey_del_same]
    constructor
    · intro e; injection e with e; exact .inl ⟨rfl, e.symm⟩
    · rintro (⟨_, rfl⟩ | ⟨hn, _⟩)
      · rfl
      · exact absurd rfl hn
  · unfold hdAt
    rw [Maps.atKey_del_other (fun e => hk (kl_inj e))]
    constructor
    · exact fun e => .inr ⟨hk, e⟩
    · rintro (⟨hn, _⟩ | ⟨_, e⟩)
      · exact absurd hn hk
      · exact e
theorem foot_put {b : Nat} {D : DataW Value} (hD : Go.Maps.IsMap D) {key : ByteArray} {v v' : Value} (hv : hdAt D key v) (hb : v'.ownBlock = v.ownBlock) {x : Nat} (hx : footM b (D.put (kl key) (.held v')) x) : footM b D x := by
  rcases hx with rfl | ⟨k, u, hu, hx⟩
  · exact .inl rfl
  · rcases (hdAt_put hD key v' k u).1 hu with ⟨rfl, rfl⟩ | ⟨_, hu⟩
    · exact .inr ⟨_, v, hv, hb ▸ hx⟩
    · exact .inr ⟨k, u, hu, hx⟩
theorem foot_del {b : Nat} {D : DataW Value} {key : ByteArray} {x : Nat} (hx : footM b (D.del (kl key)) x) : footM b D x := by
  rcases hx with rfl | ⟨k, u, hu, hx⟩
  · exact .inl rfl
  · rcases (hdAt_del key k u).1 hu with ⟨rfl, rfl⟩ | ⟨_, hu⟩
    · cases hx
    · exact .inr ⟨k, u, hu, hx⟩
theorem HMap.del {w w1 w2 : World} {p b n : Nat} {D : DataW Value} {vers : ByteArray → List Ver} (h : HMap w p b D vers) (key : ByteArray) (v v' : Value) (hv : hdAt D key v)
    (hg : Grew w w1 v v') (hm : w2.ownsMap Try.prog 9 rawElem b n (D.del (kl key))) (hg2 : w1.grownBy w2 (some b)) :
    HMap w2 p b (D.del (kl key)) (fun k => if k = key then [] else vers k) := by
  have hsz := hg.g.size
  refine ⟨ownsMap_tight hm, fun k => ?_, fun k u x hu hx => ?_, fun k k' u u' x hkk hu hu' hx hx' => ?_, fun k => ?_⟩
  · by_cases hk : k = key
    · subst hk
      refine ⟨nilS, (hdAt_del _ _ _).2 (.inl ⟨rfl, rfl⟩), ?_⟩
      rw [if_pos rfl]
      exact World.ownL.nil _ _ _
    · obtain ⟨u, h1, h2⟩ := h.hist k
      refine ⟨u, (hdAt_del _ _ _).2 (.inr ⟨hk, h1⟩), ?_⟩
      rw [if_neg hk]
      refine (h2.grew hg fun x hx hx' => h.apart k key u v x hk h1 hv hx hx').keep fun x hx => hg2.block x ?_ (fun e => (h.off k u x h1 hx).1 (by injection e))
      have := h2.lt hx; omega
  · rcases (hdAt_del _ _ _).1 hu with ⟨rfl, rfl⟩ | ⟨hk, hu⟩
    · cases hx
    · exact h.off k u x hu hx
  · rcases (hdAt_del _ _ _).1 hu with ⟨_, e2⟩ | ⟨hk, hq⟩
    · rw [e2] at hx; cases hx
    · rcases (hdAt_del _ _ _).1 hu' with ⟨_, e4⟩ | ⟨hk', hq'⟩
      · rw [e4] at hx'; cases hx'
      · exact h.apart k k' u u' x hkk hq hq' hx hx'
  · by_cases hk : k = key
    · subst hk
      rw [Maps.has_del_same, if_pos rfl]
      exact ⟨fun h => (Bool.noConfusion h), fun h => absurd rfl h⟩
    · rw [Maps.has_del_other (fun e => hk (kl_inj e)), if_neg hk]
      exact h.has k
/-- On the way of a raise: what is still to come stands as it was. -/
def mixV (s : St) (f : Nat) (left : Lit → Bool) (k : ByteArray) : List Ver := if left (kl k) = true then s.vers k else (s.vers k).drop (dropN (s.vers k) f)
theorem mix_step (s : St) (f : Nat) (left : Lit → Bool) (key : ByteArray) (vs : List Ver) (hvs : vs = (s.vers key).drop (dropN (s.vers key) f)) : (fun k => if k = key then vs else mixV s f left k) = mixV s f (fun z => left z && !z.sameKey (kl key)) := by
  funext k
  by_cases hk : k = key
  · subst hk
    rw [if_pos rfl, hvs]
    unfold mixV
    have e : (kl k).sameKey (kl k) = true := WideAt.sameKey_self (kl_key k)
    simp [e]
  · rw [if_neg hk]
    unfold mixV
    have e : (kl k).sameKey (kl key) = false := Maps.sameKey_ne (fun e => hk (kl_inj e))
    simp [e]
theorem mix_start {w : World} {p b : Nat} {D : DataW Value} {s : St} (h : HMap w p b D s.vers) (f : Nat) : mixV s f (Maps.has D) = s.vers := by
  funext k
  unfold mixV
  by_cases hk : Maps.has D (kl k) = true
  · rw [if_pos hk]
  · rw [if_neg hk]
    have : s.vers k = [] := by
      cases hv : s.vers k with
      | nil => rfl
      | cons x xs => exact absurd ((h.has k).2 (by rw [hv]; simp)) hk
    rw [this]; simp
theorem mix_end (s : St) (f : Nat) (left : Lit → Bool) (hl : ∀ z, left z = false) : mixV s f left = (s.raise f).vers := by
  funext k
  unfold mixV
  rw [hl, if_neg (by simp)]
  rfl
theorem drop_good {s : St} (h : Good s) (f : Nat) (hf : f ≤ s.rev) : Good (s.raise f) := by
  refine ⟨h.rev, hf, fun k => ?_, fun k v hv => h.bd k v (List.mem_of_mem_drop hv), h.ss⟩
  exact (h.asc k).sublist (List.drop_sublist _ _)

/-- What holds at the head of a raise's round. -/
structure RInv (w wr : World) (p b : Nat) (D D' : DataW Value) (s s2 : St) (f : Nat) (left : Lit → Bool) : Prop where
  map : HMap wr p b D' (mixV s f left)
  blk : wr.heap[p]? = some (.cells (s2.cells b) 141)
  foot : ∀ x, footM b D' x → footM b D x
  turned : w.turned wr (footS p b D)
  sz : Maps.size D' ≤ Maps.size D
  old : ∀ x, footM b D x → x < w.heap.size
  pold : p < w.heap.size
  pb : p ≠ b
theorem RInv.next {w wr w1 : World} {p b : Nat} {D D' : DataW Value} {s s2 : St} {f : Nat} {left : Lit → Bool} (h : RInv w wr p b D D' s s2 f left) (hg : wr.grownBy w1 (some w.heap.size)) : RInv w w1 p b D D' s s2 f left := by
  have hsz := h.turned.size
  have hk : ∀ x, x < w.heap.size → w1.heap[x]? = wr.heap[x]? := fun x hx => hg.block x (by omega) (fun e => by injection e with e; omega)
  refine ⟨h.map.keep fun x hx => hk x (h.old x (h.foot x hx)), (hk p h.pold).trans h.blk, h.foot, h.turned.trans (.of_grown hg) fun k hk e => ?_, h.sz, h.old, h.pold, h.pb⟩
  injection e with e
  omega
theorem RInv.hd {w wr : World} {p b : Nat} {D D' : DataW Value} {s s2 : St} {f : Nat} {left : Lit → Bool} (h : RInv w wr p b D D' s s2 f left) {key : ByteArray} {a : Option Addr} {n c : Nat} {y : DataW Value × List MemPlace} {l : Lit}
    (hkey : keyOf Try.prog 9 (.string key) = some l) (hlx : left l = true) (hv : rawElem (.slice a n c) = some y) (hat : ∀ zd, D'.atKey l zd = y.1) :
    l = kl key ∧ hdAt D' key (.slice a n c) ∧ Maps.has D' (kl key) = true ∧ n = (s.vers key).length ∧ ∃ g, a = some ⟨g, 0, none⟩ ∧ wr.ownL 158 3 (.slice (some ⟨g, 0, none⟩) (s.vers key).length c) ((s.vers key).map Ver.cells) ∧ footM b D g ∧ g ≠ b ∧ g ≠ p := by
  obtain ⟨k, h1, rfl, _⟩ := str_inv _ _ hkey
  injection h1 with h1
  subst h1
  obtain ⟨rfl, _⟩ := rawElem_inv hv
  have hhd : hdAt D' key (.slice a n c) := hat _
  have hhas : Maps.has D' (kl key) = true := Maps.has_true_of_atKey hat
  have hm : mixV s f left key = s.vers key := if_pos hlx
  have hne : s.vers key ≠ [] := hm ▸ (h.map.has key).1 hhas
  have hown := h.map.own hhd
  rw [hm] at hown
  refine ⟨rfl, hhd, hhas, ?_⟩
  have hof := fun x hx => h.map.off key _ x hhd hx
  have hft := fun x hx => h.foot x (.inr ⟨key, _, hhd, hx⟩)
  rcases hown.1.2 with ⟨_, h2⟩ | ⟨g, cap, cur, hv', _⟩
  · exact absurd (List.eq_nil_of_length_eq_zero (by simpa using h2)) hne
  · rw [List.length_map] at hv'
    injection hv' with e1 e2 e3
    subst e1 e2 e3
    exact ⟨rfl, g, rfl, hown, hft g rfl, (hof g rfl).1, (hof g rfl).2⟩
theorem RInv.del {w w1 w2 w3 : World} {p b n : Nat} {D D' : DataW Value} {s s2 : St} {f : Nat} {left : Lit → Bool} (h : RInv w w1 p b D D' s s2 f left) {key : ByteArray} {v v' : Value} (hhd : hdAt D' key v) (hv : ∀ x, v.ownBlock = some x → footM b D x ∧ x ≠ p)
    (hg : Grew w1 w2 v v') (hm : w3.ownsMap Try.prog 9 rawElem b n (D'.del (kl key))) (hg3 : w2.grownBy w3 (some b)) (hd : (s.vers key).drop (dropN (s.vers key) f) = []) :
    RInv w w3 p b D (D'.del (kl key)) s s2 f (fun z => left z && !z.sameKey (kl key)) := by
  have hsz := h.turned.size
  have hs2 := hg.g.size
  have hp := h.pold
  have hM := h.map.del key v v' hhd hg hm hg3
  rw [mix_step s f left key [] hd.symm] at hM
  refine ⟨hM, ?_, fun x hx => h.foot x (foot_del hx), ?_, ?_, h.old, h.pold, h.pb⟩
  · rw [hg3.block p (by omega) (fun e => h.pb (by injection e)), hg.g.block p (by omega) (fun e => (hv p e.symm).2 rfl)]
    exact h.blk
  · refine (h.turned.grew hg fun k _ hk => .inr (hv k hk).1).trans (.of_grown hg3) fun k _ e => ?_
    injection e with e
    exact .inr (.inl e.symm)
  · have h1 := Maps.size_del (k := kl key) (h.map.map.tidy strKeyed)
    have h2 := h.sz
    omega
theorem RInv.put {w w1 w2 w3 : World} {p b n : Nat} {D D' : DataW Value} {s s2 : St} {f : Nat} {left : Lit → Bool} (h : RInv w w1 p b D D' s s2 f left) {key : ByteArray} {v v' : Value} (hhd : hdAt D' key v) (hhas : Maps.has D' (kl key) = true) (hv : ∀ x, v.ownBlock = some x → footM b D x ∧ x ≠ p) (hb : v'.ownBlock = v.ownBlock)
    (hg : Grew w1 w2 v v') (ho : w2.ownL 158 3 v' (((s.vers key).drop (dropN (s.vers key) f)).map Ver.cells)) (hm : w3.ownsMap Try.prog 9 rawElem b n (D'.put (kl key) (.held v'))) (hg3 : w2.grownBy w3 (some b)) (hd : (s.vers key).drop (dropN (s.vers key) f) ≠ []) :
    RInv w w3 p b D (D'.put (kl key) (.held v')) s s2 f (fun z => left z && !z.sameKey (kl key)) := by
  have hsz := h.turned.size
  have hs2 := hg.g.size
  have hp := h.pold
  have hps : Maps.size (D'.put (kl key) (.held v')) = Maps.size D' := by
    rw [Maps.size_put (h.map.map.tidy strKeyed), if_pos hhas]
  have hm' : w3.ownsMap Try.prog 9 rawElem b (Maps.size D' + 1) (D'.put (kl key) (.held v')) := by
    have := ownsMap_tight hm
    rw [hps] at this
    obtain ⟨es, clock, e1, e2, e3, e4⟩ := this
    exact ⟨es, clock, e1, e2, Nat.le_succ_of_le e3, e4⟩
  obtain ⟨hM, _⟩ := h.map.put key v v' _ hhd hd (by omega) hg ho hm' hg3
  rw [mix_step s f left key _ rfl] at hM
  refine ⟨hM, ?_, fun x hx => h.foot x (foot_put h.map.map.isMap hhd hb hx), ?_, by rw [hps]; exact h.sz, h.old, h.pold, h.pb⟩
  · rw [hg3.block p (by omega) (fun e => h.pb (by injection e)), hg.g.block p (by omega) (fun e => (hv p e.symm).2 rfl)]
    exact h.blk
  · refine (h.turned.grew hg fun k _ hk => .inr (hv k hk).1).trans (.of_grown hg3) fun k _ e => ?_
    injection e with e
    exact .inr (.inl e.symm)
set_option maxRecDepth 100000 in
set_option maxHeartbeats 1000000 in
theorem raiseYes (w : World) (p b : Nat) (D : DataW Value) (s : St) (h : StoreAt w p b D s) (f : Nat) (hf1 : s.floor < f) (hf2 : f ≤ s.rev) :
    Calls Try.prog 166 #[.pointer (some ⟨p, 0, none⟩), .int .i64 f] w fun e w' => e = .returned (.bool true) ∧ ∃ D', StoreAt w' p b D' (s.raise f) ∧ (∀ x, footM b D' x → footM b D x) ∧ w.turned w' (footS p b D) := by
  obtain ⟨c0, c1, c2, cf⟩ := st_cells h.blk
  have hp : p < w.heap.size := (Array.getElem?_eq_some_iff.1 h.blk).1
  have hpb := h.pb
  have hff1 : (s.floor : Int) < f := by omega
  have hff2 : (f : Int) ≤ s.rev := by omega
  have H : Hid (StoreAt w p b D s) := h
  have HF : Hid (f ≤ s.rev) := hf2
  obtain ⟨s2, HS2⟩ : ∃ s2 : St, Hid (s2 = { s with floor := f }) := ⟨_, rfl⟩
  have hown : w.ownsMap Try.prog 9 rawElem b (Maps.size D) D := h.map.map
  have HW1 : Hid (∀ w1 : World, w1 = w.setCell ⟨p, 1, none⟩ (.int .i64 f) → w1.heap[p]? = some (.cells (s2.cells b) 141) ∧ HMap w1 p b D s.vers) := by
    rintro w1 rfl
    refine ⟨?_, h.map.keep fun x hx => Below.heap_setCell _ _ _ _ fun e => ?_⟩
    · rw [setCell_heapB, if_pos rfl, h.blk, HS2.out]; rfl
    · rcases hx with rfl | ⟨k, v, hv, hx⟩
      · exact hpb e.symm
      · exact (h.map.off k v x hv hx).2 e
  clear h hf1 hf2
  go_enter Try.func166, Try.ntmps166
  go_wp2_with (at_range; refine Held.out ?_)
  unfold Held
  refine wpList_range_own _ rfl _ 136 rfl 9 160 strKeyed Try.underlying136 rawElem b (Maps.size D) D rfl (HW1.out _ rfl).2.map ?_
  intro w0 hrg0 hg0 hs0
  go_frame
  go_wp2_with fail
  have hsz : (w.setCell ⟨p, 1, none⟩ (.int .i64 f)).heap.size = w.heap.size := by simp
  rw [hsz] at hrg0 hs0 ⊢
  have hI0 : RInv w w0 p b D D s s2 f (Maps.has D) := by
    have h1 := HW1.out _ rfl
    have hk : ∀ x, x < w.heap.size → w0.heap[x]? = (w.setCell ⟨p, 1, none⟩ (.int .i64 f)).heap[x]? := fun x hx => hg0.block x (by rw [hsz]; exact hx) (by simp)
    refine ⟨?_, (hk p hp).trans h1.1, fun x hx => hx, ?_, Nat.le_refl _, fun x hx => H.out.map.foot_lt hx, hp, hpb⟩
    · rw [mix_start H.out.map]
      exact h1.2.keep fun x hx => hk x (H.out.map.foot_lt hx)
    · exact ((World.turned.refl w _).set (fun _ => .inl rfl) _).trans (.of_grown hg0) fun k _ e => by cases e
  have HI0 : Hid (RInv w w0 p b D D s s2 f (Maps.has D)) := hI0
  clear hI0 HW1
  have hd1 : decide (f ≤ s.floor) = false := decide_eq_false (by omega)
  have hd2 : decide (s.rev < f) = false := decide_eq_false (by omega)
  simp only [hd1, hd2, Bool.or_false]
  clear hd1 hd2
  go_loopw [5] (fun _ wr => ∃ D' left cnt, wr.ranges Try.prog 9 rawElem b w.heap.size (Maps.size D) D' left cnt ∧ Hid (RInv w wr p b D D' s s2 f left)) (fun _ wr => wr.rangeLeft b w.heap.size)
  case atStart => exact ⟨_, _, _, hrg0, HI0⟩
  case round =>
    obtain ⟨D', left, cnt, hrg, HI⟩ := hrel
    go_wp2_with (at_next; refine Held.out ?_)
    unfold Held
    refine wpList_next_ranges (α := ByteArray) (β := Option Addr × Nat × Nat) _ rfl _ rfl 9 strKeyed rawElem .string (fun c => .slice c.1 c.2.1 c.2.2) (fun key l h => by obtain ⟨x, h1, _⟩ := str_inv key l h; exact ⟨x, h1⟩) (fun v y h => by obtain ⟨_, a, n, c, h1⟩ := rawElem_inv h; exact ⟨(a, n, c), h1⟩) b w.heap.size _ _ _ _ rfl hrg ?_ ?_
    · intro hc0 hl0
      go_frame
      go_wp2_with fail
      go_ret
      have hI := HI.out
      refine ⟨rfl, D', ⟨?_, ?_, ?_, ?_⟩, hI.foot, hI.turned⟩
      · rw [hI.blk, HS2.out]; rfl
      · have := hI.map
        rw [mix_end s f left hl0] at this
        exact this
      · exact drop_good H.out.good f HF.out
      · exact Nat.le_trans hI.sz H.out.sz
    · intro key c l y w1 cnt1 hkey hlx hv hat hrg1 hlt hg1 hs1 hen
      obtain ⟨a, n, c⟩ := c
      have hI1 := HI.out.next hg1
      obtain ⟨rfl, hhd, hhas, rfl, g, rfl, hown, hfg, hgb, hgp⟩ := hI1.hd hkey hlx hv hat
      have HK : Hid (hdAt D' key (.slice (some ⟨g, 0, none⟩) (s.vers key).length c) ∧ Maps.has D' (kl key) = true) := ⟨hhd, hhas⟩
      have HI1 : Hid (RInv w w1 p b D D' s s2 f left) := hI1
      have hgr : w.heap.size ≠ g := by have := H.out.map.foot_lt hfg; omega
      have hasc := H.out.good.asc key
      have hlen : (s.vers key).length ≤ 1000000 := Nat.le_trans (asc_len hasc (H.out.good.bd key)) H.out.good.rev
      have hcall := histFrom w1 g c (s.vers key) f hlen hasc hown
      have HKK : Hid (keyOf Try.prog 9 (.string key) = some (kl key)) := hkey
      clear hI1 hhd hhas hat hv hkey hown hasc hlen
      go_frame
      go_wp2_with fail
      refine hcall.mono ?_
      rintro e w2 ⟨rfl, ho2, hg2⟩
      have hrg2 := hrg1.kept hg2.g (fun e => hgb (by injection e with e; exact e.symm)) (fun e => hgr (by injection e))
      have HDl : Hid (((s.vers key).drop (dropN (s.vers key) f)).length = (s.vers key).length - dropN (s.vers key) f) := List.length_drop ..
      have HG2 : Hid (Grew w1 w2 (.slice (some ⟨g, 0, none⟩) (s.vers key).length c) (.slice (some ⟨g, 0, none⟩) ((s.vers key).length - dropN (s.vers key) f) c)) := hg2
      have HO2 : Hid (w2.ownL 158 3 (.slice (some ⟨g, 0, none⟩) ((s.vers key).length - dropN (s.vers key) f) c) (((s.vers key).drop (dropN (s.vers key) f)).map Ver.cells)) := ho2
      have hv : ∀ n x, (Value.slice (some ⟨g, 0, none⟩) n c).ownBlock = some x → footM b D x ∧ x ≠ p := fun n x e => by
        have : x = g := by injection e with e; exact e.symm
        subst this
        exact ⟨hfg, hgp⟩
      have hB2 : w2.heap[p]? = some (.cells (s2.cells b) 141) := by
        rw [hg2.g.block p (by have := HI1.out.turned.size; omega) (fun e => hgp (by injection e with e; exact e.symm))]
        exact HI1.out.blk
      clear c0 c1 c2 cf
      obtain ⟨c0, c1, c2, cf⟩ := st_cells hB2
      clear hg2 ho2 hg1 hs1 hB2
      generalize hm : (s.vers key).length - dropN (s.vers key) f = m at *
      clear hm
      rcases Nat.eq_zero_or_pos m with h0 | h0
      · subst h0
        go_wp2_with (at_delete; refine Held.out ?_)
        unfold Held
        refine wpList_delete_ranges _ rfl _ _ 136 9 rfl 160 strKeyed Try.underlying136 rawElem b w.heap.size _ D' _ _ rfl hrg2 (.string key) (kl key) rfl HKK.out ?_
        intro w3 cnt3 hrg3 hle hmt
        rw [Maps.strike_twice] at hrg3
        go_frame
        go_wp2_with fail
        go_roundw
        case rel => exact ⟨_, _, cnt3, hrg3, HI1.out.del HK.out.1 (hv _) HG2.out hrg3.owns hmt.grown (List.eq_nil_of_length_eq_zero HDl.out)⟩
        case measure => rw [hrg3.left_eq, hrg.left_eq]; omega
      · have hpos : (0 : Int) < m := by omega
        have hne0 : ((m : Int) == 0) = false := by rw [beq_eq_false_iff_ne]; omega
        go_wp2_with (at_mapUpdate; refine Held.out ?_)
        unfold Held
        refine wpList_mapUpdate_ranges _ rfl _ _ _ 136 rfl 9 160 strKeyed Try.underlying136 rawElem b w.heap.size _ D' _ _ rfl hrg2 (.string key) (.slice (some ⟨g, 0, none⟩) m c) (kl key) rfl rfl HKK.out (.held (.slice (some ⟨g, 0, none⟩) m c)) [] rfl HK.out.2 ?_
        intro w3 hrg3 hg3
        go_frame
        go_wp2_with fail
        go_roundw
        case rel => exact ⟨_, _, cnt1, hrg3, RInv.put (v' := .slice (some ⟨g, 0, none⟩) m c) HI1.out HK.out.1 HK.out.2 (hv _) rfl HG2.out HO2.out hrg3.owns hg3 (fun e => by have := HDl.out; rw [e] at this; simp at this; omega)⟩
        case measure => rw [hrg3.left_eq, hrg.left_eq]; omega
end Go.Proofs.Ytcbbnmodjnnbeaa
