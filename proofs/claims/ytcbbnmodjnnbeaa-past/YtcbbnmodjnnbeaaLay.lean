/- The walk of the store's lay: a version of a new revision behind those of a key. -/
import Derived.Test.YtcbbnmodjnnbeaaStore
import Derived.Test.YtcbbnmodjnnbeaaClone
import Derived.Test.YtcbbnmodjnnbeaaLists2
import Derived.Test.YtcbbnmodjnnbeaaPack2
import Derived.Deep.RegionHeldLaw
import Derived.Deep.AppendLies
import Derived.Outline
set_option linter.unusedSimpArgs false
set_option linter.unusedVariables false
namespace Go.Proofs.Ytcbbnmodjnnbeaa
open Go.RowKit

theorem World.drew_ext (w : World) (x : Grow) : w.drew.ext x = w.ext x := rfl
attribute [local go_sem] World.drew_ext World.ext_ext
structure St where
  rev : Nat
  floor : Nat
  vers : ByteArray → List Ver
  ss : List (Nat × Res)
def sessCells (ss : List (Nat × Res)) : List Value := ss.flatMap fun x => [.int .i64 x.1, .bool x.2.ok, .int .i64 x.2.rev, .bool x.2.stale]
def St.cells (s : St) (b : Nat) : Array Value := (.int .i64 s.rev :: .int .i64 s.floor :: .map (some b) :: sessCells s.ss).toArray
structure Good (s : St) : Prop where
  rev : s.rev ≤ 1000000
  floor : s.floor ≤ s.rev
  asc : ∀ k, Asc (s.vers k)
  bd : ∀ k, ∀ v ∈ s.vers k, 1 ≤ v.rev ∧ v.rev ≤ s.rev
  ss : s.ss.length = 8
structure StoreAt (w : World) (p b : Nat) (D : DataW Value) (s : St) : Prop where
  blk : w.heap[p]? = some (.cells (s.cells b) 141)
  map : HMap w p b D s.vers
  good : Good s
  sz : Maps.size D ≤ s.rev
def footS (p b : Nat) (D : DataW Value) (x : Nat) : Prop := x = p ∨ footM b D x
def St.lay (s : St) (key : ByteArray) (val : ByteArray) (gone : Bool) : St := { s with rev := s.rev + 1, vers := fun k => if k = key then s.vers key ++ [⟨s.rev + 1, val, gone⟩] else s.vers k }
theorem asc_len {vs : List Ver} (h : Asc vs) {n : Nat} (hb : ∀ v ∈ vs, 1 ≤ v.rev ∧ v.rev ≤ n) : vs.length ≤ n := by
  induction vs generalizing n with
  | nil => simp
  | cons x xs ih =>
    obtain ⟨h1, h2⟩ := List.pairwise_cons.1 h
    have hx := hb x (by simp)
    rcases Nat.eq_zero_or_pos xs.length with h0 | h0
    · simp [h0]; omega
    · have hlast : ∃ y ∈ xs, xs.length + x.rev ≤ y.rev := by
        clear ih hb hx h
        induction xs generalizing x with
        | nil => simp at h0
        | cons y ys ih2 =>
          obtain ⟨g1, g2⟩ := List.pairwise_cons.1 h2
          have hy := h1 y (by simp)
          rcases Nat.eq_zero_or_pos ys.length with h3 | h3
          · exact ⟨y, by simp, by simp [h3]; omega⟩
          · obtain ⟨z, hz, hz2⟩ := ih2 y g1 g2 h3
            exact ⟨z, by simp [hz], by simp; omega⟩
      obtain ⟨y, hy, hy2⟩ := hlast
      have := (hb y (by simp [hy])).2
      simp; omega
theorem Good.len {s : St} (h : Good s) (k : ByteArray) : (s.vers k).length ≤ 1000000 := Nat.le_trans (asc_len (h.asc k) (h.bd k)) h.rev
theorem st_cells {w : World} {p b : Nat} {s : St} (h : w.heap[p]? = some (.cells (s.cells b) 141)) :
    w.cell? ⟨p, 0, none⟩ = some (.int .i64 s.rev) ∧ w.cell? ⟨p, 1, none⟩ = some (.int .i64 s.floor) ∧ w.cell? ⟨p, 2, none⟩ = some (.map (some b)) ∧ ∀ o, w.frozen? ⟨p, o, none⟩ = false := by
  refine ⟨?_, ?_, ?_, fun o => ?_⟩
  · simp only [World.cell?, h]; rfl
  · simp only [World.cell?, h]; rfl
  · simp only [World.cell?, h]; rfl
  · simp [World.frozen?, h]
theorem StoreAt.pb {w : World} {p b : Nat} {D : DataW Value} {s : St} (h : StoreAt w p b D s) : p ≠ b := by
  obtain ⟨es, clock, h1, _⟩ := h.map.map
  intro e
  have := h.blk
  rw [e, h1] at this
  cases this
theorem Good.lay {s : St} (h : Good s) (key val : ByteArray) (gone : Bool) (hr : s.rev < 1000000) : Good (s.lay key val gone) := by
  refine ⟨by show s.rev + 1 ≤ _; omega, by show s.floor ≤ s.rev + 1; have := h.floor; omega, fun k => ?_, fun k v hv => ?_, h.ss⟩
  · show Asc (if k = key then _ else _)
    by_cases hk : k = key
    · rw [if_pos hk]
      refine List.pairwise_append.2 ⟨h.asc key, List.pairwise_singleton _ _, fun x hx y hy => ?_⟩
      rw [List.mem_singleton.1 hy]
      have := (h.bd key x hx).2
      show x.rev < s.rev + 1
      omega
    · rw [if_neg hk]; exact h.asc k
  · have hv' : v ∈ (if k = key then s.vers key ++ [⟨s.rev + 1, val, gone⟩] else s.vers k) := hv
    show 1 ≤ v.rev ∧ v.rev ≤ s.rev + 1
    by_cases hk : k = key
    · rw [if_pos hk] at hv'
      rcases List.mem_append.1 hv' with hv' | hv'
      · have := h.bd key v hv'; omega
      · rw [List.mem_singleton.1 hv']; exact ⟨by show 1 ≤ s.rev + 1; omega, Nat.le_refl _⟩
    · rw [if_neg hk] at hv'
      have := h.bd k v hv'; omega

theorem infoVer : (Try.prog.info? 158).map (fun i => (i.zero, i.size, i.bytes)) = some (some (.agg #[.int .i64 0, .string ⟨#[]⟩, .bool false]), 3, 32) := by kernel_rfl
theorem lay_a {n : Nat} (h : n ≤ 1000000) : n + 1 ≤ maxLen := by unfold maxLen; omega
theorem lay_b {n : Nat} (h : n ≤ 1000000) : (n + 1) * 32 ≤ 140737488355328 := by omega
theorem lay_c {n r : Nat} (h : n ≤ r) (hr : r < 1000000) : n < maxLen := by unfold maxLen; omega
theorem layS_keep {w w' : World} {p b q r : Nat} {val : ByteArray} {gone : Bool} (h : w.cell? ⟨p, 2, none⟩ = some (.map (some b)) ∧ w.cell? ⟨q, 0, none⟩ = some (.int .i64 ((r : Int) + 1)) ∧ w.cell? ⟨q, 1, none⟩ = some (.string val) ∧ w.cell? ⟨q, 2, none⟩ = some (.bool gone)) (hp : w'.heap[p]? = w.heap[p]?) (hq : w'.heap[q]? = w.heap[q]?) :
    w'.cell? ⟨p, 2, none⟩ = some (.map (some b)) ∧ w'.cell? ⟨q, 0, none⟩ = some (.int .i64 ((r : Int) + 1)) ∧ w'.cell? ⟨q, 1, none⟩ = some (.string val) ∧ w'.cell? ⟨q, 2, none⟩ = some (.bool gone) :=
  ⟨(World.cell?_of_block (w := w) hp).trans h.1, (World.cell?_of_block (w := w) hq).trans h.2.1, (World.cell?_of_block (w := w) hq).trans h.2.2.1, (World.cell?_of_block (w := w) hq).trans h.2.2.2⟩
theorem wp_joinF {P : Program} {c : Code} {Q : Exit → Act → World → Prop} {a : Act} {W : World} (fa : Act) (F : World → Prop) (h1 : Code.wp P c (fun e a' w' => match e with | .normal => a' = fa ∧ F w' | _ => False) a W) (h2 : ∀ w', F w' → Q .normal fa w') : Code.wp P c Q a W :=
  Code.wp_mono (by
    intro e a' w' h
    cases e <;> try exact h.elim
    obtain ⟨rfl, h⟩ := h
    exact h2 _ h) h1
/-- Behind the append: the map takes the new header; the store is what it must be. -/
theorem layEnd {w w5 w6 : World} {p b : Nat} {D : DataW Value} {s : St} {key val : ByteArray} {gone : Bool} {ah a1 : Option Addr} {caph cap1 : Nat} {o : Obj} (H : StoreAt w p b D s) (hr : s.rev < 1000000) (hk : key.size ≤ maxLen) (HM5 : HMap w5 p b D s.vers) (hp5 : w5.heap[p]? = some (.cells ((s.lay key val gone).cells b) 141)) (HT5 : w.turned w5 (fun x => x = p)) (h5s : w.heap.size < w5.heap.size) (hp5s : p < w.heap.size)
    (hS5 : (w5.cell? ⟨p, 2, none⟩ = some (.map (some b)) ∧ w5.cell? ⟨w.heap.size, 0, none⟩ = some (.int .i64 ((s.rev : Int) + 1)) ∧ w5.cell? ⟨w.heap.size, 1, none⟩ = some (.string val) ∧ w5.cell? ⟨w.heap.size, 2, none⟩ = some (.bool gone))) (hhd : hdAt D key (.slice ah (s.vers key).length caph)) (ho6 : w6.ownL 158 3 (.slice a1 ((s.vers key).length + 1) cap1) ((s.vers key).map Ver.cells ++ [#[.int .i64 ((s.rev : Int) + 1), .string val, .bool gone].toList]))
    (hg6 : Grew (w5.alloc o).drew w6 (.slice ah (s.vers key).length caph) (.slice a1 ((s.vers key).length + 1) cap1)) :
    ∃ w7, (Instr.mapUpdate 136 (.map (some b)) (.string key) (.slice a1 ((s.vers key).length + 1) cap1)).run Try.prog w6 = .ok () w7 ∧ (w6.cell? ⟨p, 2, none⟩ = some (.map (some b)) ∧ w6.cell? ⟨w.heap.size, 0, none⟩ = some (.int .i64 ((s.rev : Int) + 1)) ∧ w6.cell? ⟨w.heap.size, 1, none⟩ = some (.string val) ∧ w6.cell? ⟨w.heap.size, 2, none⟩ = some (.bool gone)) ∧ (w7.cell? ⟨p, 2, none⟩ = some (.map (some b)) ∧ w7.cell? ⟨w.heap.size, 0, none⟩ = some (.int .i64 ((s.rev : Int) + 1)) ∧ w7.cell? ⟨w.heap.size, 1, none⟩ = some (.string val) ∧ w7.cell? ⟨w.heap.size, 2, none⟩ = some (.bool gone)) ∧
      ∃ D', StoreAt w7 p b D' (s.lay key val gone) ∧ (∀ x, footM b D' x → footM b D x ∨ w.heap.size ≤ x) ∧ w.turned w7 (footS p b D) := by
  have hpb := H.pb
  have hb5 := HM5.map.lt
  have hbw := H.map.map.lt
  have hoff : ∀ x, (Value.slice ah (s.vers key).length caph).ownBlock = some x → x ≠ b ∧ x ≠ p ∧ x < w.heap.size := fun x hx => ⟨(HM5.off key _ x hhd hx).1, (HM5.off key _ x hhd hx).2, (H.map.own hhd).lt hx⟩
  have hps : p < (w5.alloc o).drew.heap.size := by show p < (w5.alloc o).heap.size; simp; omega
  have hbs : b < (w5.alloc o).drew.heap.size := by show b < (w5.alloc o).heap.size; simp; omega
  have hqs : w.heap.size < (w5.alloc o).drew.heap.size := by show w.heap.size < (w5.alloc o).heap.size; simp; omega
  have e6p : w6.heap[p]? = w5.heap[p]? := (hg6.keep hps fun h => (hoff p h).2.1 rfl).trans (Below.heap_alloc _ _ _ (by omega))
  have e6b : w6.heap[b]? = w5.heap[b]? := (hg6.keep hbs fun h => (hoff b h).1 rfl).trans (Below.heap_alloc _ _ _ hb5)
  have e6q : w6.heap[w.heap.size]? = w5.heap[w.heap.size]? := (hg6.keep hqs fun h => by have := (hoff _ h).2.2; omega).trans (Below.heap_alloc _ _ _ h5s)
  have hS6 := layS_keep hS5 e6p e6q
  have hm6 : w6.ownsMap Try.prog 9 rawElem b (Maps.size D) D := ownsMap_keep HM5.map e6b
  have hs6 := hg6.g.size
  have hs6' : w5.heap.size < w6.heap.size := by
    have : (w5.alloc o).drew.heap.size = w5.heap.size + 1 := by show (w5.alloc o).heap.size = _; simp
    omega
  obtain ⟨w7, hrun, hm7, hg7⟩ := hm6.update strKeyed Try.underlying136 (lay_c H.sz hr) (key_of key hk) (val := .slice a1 ((s.vers key).length + 1) cap1) (d := .held (.slice a1 ((s.vers key).length + 1) cap1)) (ps := []) rfl
  have e7p : w7.heap[p]? = w6.heap[p]? := hg7.block p (by omega) fun h => hpb (by injection h)
  have e7q : w7.heap[w.heap.size]? = w6.heap[w.heap.size]? := hg7.block _ (by omega) (fun h => by injection h with h; omega)
  have hHM : HMap (w5.alloc o).drew p b D s.vers := HM5.keep fun x hx => Below.heap_alloc _ _ _ (HM5.foot_lt hx)
  have hvs : (s.vers key ++ [(⟨s.rev + 1, val, gone⟩ : Ver)]).map Ver.cells = (s.vers key).map Ver.cells ++ [#[.int .i64 ((s.rev : Int) + 1), .string val, .bool gone].toList] := by
    rw [List.map_append]; rfl
  have hput := hHM.put key _ _ (s.vers key ++ [⟨s.rev + 1, val, gone⟩]) hhd (by simp) hps hg6 (by rw [hvs]; exact ho6) hm7 hg7
  obtain ⟨hM7, hf7⟩ := hput
  have hsz7 : Maps.size (D.put (kl key) (.held (.slice a1 ((s.vers key).length + 1) cap1))) ≤ s.rev + 1 := by
    rw [Maps.size_put (HM5.map.tidy strKeyed)]
    have := H.sz
    split <;> omega
  refine ⟨w7, hrun, hS6, layS_keep hS6 e7p e7q, _, ⟨(e7p.trans e6p).trans hp5, hM7, H.good.lay key val gone hr, hsz7⟩, fun x hx => ?_, ?_⟩
  · rcases hf7 x hx with h1 | h1
    · exact .inl h1
    · refine .inr ?_
      have h2 : (w5.alloc o).drew.heap.size = w5.heap.size + 1 := by show (w5.alloc o).heap.size = _; simp
      omega
  · refine (((HT5.mono (S' := footS p b D) fun k hk h => .inl h).alloc o).drew.grew hg6 fun k hk h => .inr (.inr ⟨key, _, hhd, h⟩)).trans (.of_grown hg7) fun k hk h => ?_
    injection h with h
    exact .inr (.inl h.symm)
set_option maxRecDepth 100000 in
theorem layFull (w : World) (p b : Nat) (D : DataW Value) (s : St) (h : StoreAt w p b D s) (key val : ByteArray) (gone : Bool) (r0 : Int) (hr : s.rev = 1000000) :
    Calls Try.prog 165 #[.pointer (some ⟨p, 0, none⟩), .string key, .agg #[.int .i64 r0, .string val, .bool gone]] w fun e w' => e = .returned (.bool false) ∧ Below w.heap.size w w' := by
  obtain ⟨c0, c1, c2, cf⟩ := st_cells h.blk
  have hp : p < w.heap.size := (Array.getElem?_eq_some_iff.1 h.blk).1
  have c0' : w.cell? ⟨p, 0, none⟩ = some (.int .i64 1000000) := by rw [c0, hr]; rfl
  clear h hr c0
  go_enter Try.func165, Try.ntmps165
  go_wp2
  go_ret
  exact ⟨rfl, (by repeat (first | exact Below.refl _ _ | assumption | with_reducible refine below_drewN ?_ _ | refine Gr.ext ?_ _ | refine Gr.alloc ?_ _ | refine Gr.drew ?_ | (refine Gr.set ?_ (by first | (simp; done) | (simp; omega)) _)))⟩
set_option maxRecDepth 100000 in
theorem layOk (w : World) (p b : Nat) (D : DataW Value) (s : St) (h : StoreAt w p b D s) (key val : ByteArray) (gone : Bool) (r0 : Int) (hr : s.rev < 1000000) (hk : key.size ≤ 1000000) (hv : val.size ≤ 1000000) :
    Calls Try.prog 165 #[.pointer (some ⟨p, 0, none⟩), .string key, .agg #[.int .i64 r0, .string val, .bool gone]] w fun e w' => e = .returned (.bool true) ∧ ∃ D', StoreAt w' p b D' (s.lay key val gone) ∧ (∀ x, footM b D' x → footM b D x ∨ w.heap.size ≤ x) ∧ w.turned w' (footS p b D) := by
  obtain ⟨c0, c1, c2, cf⟩ := st_cells h.blk
  have hp : p < w.heap.size := (Array.getElem?_eq_some_iff.1 h.blk).1
  have hne : ((s.rev : Int) == 1000000) = false := by rw [beq_eq_false_iff_ne]; omega
  have hri : (s.rev : Int) < 4611686018427387904 := by omega
  have HR : Hid (s.rev < 1000000) := hr
  have HK : Hid (key.size ≤ 1000000) := hk
  have HV : Hid (val.size ≤ 1000000) := hv
  have H : Hid (StoreAt w p b D s) := h
  have HKm : Hid (key.size ≤ maxLen) := by show _ ≤ _; unfold maxLen; omega
  have HK2 : Hid (key.size ≤ 281474976710656) := by show _ ≤ _; omega
  have HV2 : Hid (val.size ≤ 281474976710656) := by show _ ≤ _; omega
  clear hr hk hv h
  go_enter Try.func165, Try.ntmps165
  go_wp2_with fail
  refine world_any (F := fun w4 => w.turned w4 (fun x => x = p) ∧ w4.heap[p]? = some (.cells ((s.lay key val gone).cells b) 141) ∧ w4.heap[w.heap.size]? = some (.cells #[.int .i64 ((s.rev : Int) + 1), .string val, .bool gone] 158)) ⟨?_, ?_, ?_⟩ ?_
  · exact (World.turned.set (S := fun x => x = p) (World.turned.refl w _) (fun _ => rfl) _).alloc _
  · refine Hp.alloc ?_ _
    rw [setCell_heapB, if_pos rfl, H.out.blk]
    rfl
  · exact Hp.new (by simp)
  rintro w4 ⟨ht4, hp4, hv4⟩
  clear c0 c1 c2 cf hne
  have h4s : w.heap.size < w4.heap.size := (Array.getElem?_eq_some_iff.1 hv4).1
  have v0 : w4.cell? ⟨w.heap.size, 0, none⟩ = some (.int .i64 ((s.rev : Int) + 1)) := by simp only [World.cell?, hv4]; rfl
  have v1 : w4.cell? ⟨w.heap.size, 1, none⟩ = some (.string val) := by simp only [World.cell?, hv4]; rfl
  have v2 : w4.cell? ⟨w.heap.size, 2, none⟩ = some (.bool gone) := by simp only [World.cell?, hv4]; rfl
  have vf : ∀ o, w4.frozen? ⟨w.heap.size, o, none⟩ = false := fun o => by simp [World.frozen?, hv4]
  have HP4 : Hid (w4.heap[p]? = some (.cells ((s.lay key val gone).cells b) 141)) := hp4
  have HT4 : Hid (w.turned w4 (fun x => x = p)) := ht4
  clear hp4 ht4
  apply wp_joinF (F := fun w5 => w4.turned w5 (fun x => x = w.heap.size) ∧ w5.heap[w.heap.size]? = some (.cells #[.int .i64 ((s.rev : Int) + 1), .string val, .bool gone] 158))
  case h1 =>
    go_region_with (go_at_call 54; (first | with_reducible refine Calls.mono (stringsClone key _ HK2.out) ?_ | with_reducible refine Calls.mono (stringsClone val _ HV2.out) ?_); rintro e w1 ⟨rfl, hb1⟩; obtain ⟨x1, rfl⟩ := Below.ext hb1; clear hb1)
    all_goals exact ⟨rfl, (World.turned.set (S := fun x => x = w.heap.size) (World.turned.refl _ _) (fun _ => rfl) _).ext _, Hp.ext (by rw [setCell_heapB, if_pos rfl, hv4]; rfl) _⟩
  case h2 =>
    rintro w5 ⟨ht5, hv5⟩
    have hpb := H.out.pb
    have hps : p ≠ w.heap.size := by omega
    have hp5 : w5.heap[p]? = some (.cells ((s.lay key val gone).cells b) 141) := (ht5.block p (by have := HT4.out.size; omega) hps).trans HP4.out
    have HM4 : HMap w4 p b D s.vers := H.out.map.turned HT4.out fun x hx hxp => by
      rcases hx with hx | ⟨k, v, hv, hx⟩
      · exact hpb (hxp.symm.trans hx)
      · exact (H.out.map.off k v x hv hx).2 hxp
    have HM5 : HMap w5 p b D s.vers := HM4.turned ht5 fun x hx hxp => by
      have := H.out.map.foot_lt hx
      omega
    obtain ⟨hd, hhd, hho⟩ := HM5.hist key
    have hoff : ∀ x, hd.ownBlock = some x → x ≠ b ∧ x ≠ p ∧ x ≠ w.heap.size := fun x hx => ⟨(HM5.off key hd x hhd hx).1, (HM5.off key hd x hhd hx).2, by have := (H.out.map.own hhd).lt hx; omega⟩
    obtain ⟨ah, caph, hah⟩ := hho.len
    rw [List.length_map] at hah
    subst hah
    have HT5 : Hid (w.turned w5 (fun x => x = p)) := HT4.out.trans ht5 fun k hk hkx => by omega
    have h5s : w.heap.size < w5.heap.size := (Array.getElem?_eq_some_iff.1 hv5).1
    clear hv4 h4s v0 v1 v2 vf HP4 HT4 HM4 ht5
    obtain ⟨c0, c1, c2, cf⟩ := st_cells hp5
    have v0 : w5.cell? ⟨w.heap.size, 0, none⟩ = some (.int .i64 ((s.rev : Int) + 1)) := by simp only [World.cell?, hv5]; rfl
    have v1 : w5.cell? ⟨w.heap.size, 1, none⟩ = some (.string val) := by simp only [World.cell?, hv5]; rfl
    have v2 : w5.cell? ⟨w.heap.size, 2, none⟩ = some (.bool gone) := by simp only [World.cell?, hv5]; rfl
    obtain ⟨es, clock, hb5, hF, hs5, hD5⟩ := HM5.map
    have hlook : ∀ w' : World, w'.heap[b]? = some (.map es clock) → (Instr.lookup 136 (.map (some b)) (.string key) false).run Try.prog w' = .ok (.slice ah (s.vers key).length caph) w' := by
      intro w' hb'
      have ho : w'.ownsMap Try.prog 9 rawElem b (Maps.size D) D := ⟨es, clock, hb', hF, hs5, hD5⟩
      obtain ⟨v, ps, hrun, hraw⟩ := ho.lookup strKeyed Try.underlying136 (z := nilS) (by kernel_rfl) (zd := .held nilS) (zp := []) rfl (key_of key (by have := HK.out; unfold maxLen; omega))
      have hv : D.atKey (kl key) (.held nilS) = .held v := by have := (rawElem_inv hraw).1; injection this with this _
      rw [hrun, hdAt_one (hv : hdAt D key v) hhd]
    clear hF hs5 hD5
    have hkk : keyOf Try.prog 9 (.string key) = some (kl key) := key_of key (by have := HK.out; unfold maxLen; omega)
    have hlen : ((s.vers key).map Ver.cells).length = (s.vers key).length := List.length_map _
    have hln : (s.vers key).length ≤ 1000000 := H.out.good.len key
    have hl1 : (s.vers key).length + 1 ≤ maxLen := lay_a hln
    have hl2 : ((s.vers key).length + 1) * 32 ≤ 140737488355328 := lay_b hln
    have hDm : Maps.size D < maxLen := lay_c H.out.sz HR.out
    have hone : ∀ u ∈ (#[.int .i64 ((s.rev : Int) + 1), .string val, .bool gone] : Array Value).toList, u.oneCell' = true := by
      intro u hu
      simp only [List.mem_cons, List.not_mem_nil, or_false] at hu
      rcases hu with rfl | rfl | rfl <;> rfl
    have hlk1 := hlook w5.drew hb5
    have hlk2 := fun o => hlook (w5.alloc o).drew (Hp.alloc hb5 o)
    have hS5 : w5.cell? ⟨p, 2, none⟩ = some (.map (some b)) ∧ w5.cell? ⟨w.heap.size, 0, none⟩ = some (.int .i64 ((s.rev : Int) + 1)) ∧ w5.cell? ⟨w.heap.size, 1, none⟩ = some (.string val) ∧ w5.cell? ⟨w.heap.size, 2, none⟩ = some (.bool gone) := ⟨c2, v0, v1, v2⟩
    have hp5s : p < w5.heap.size := by omega
    clear hlook
    go_wp2_with fail
    go_region_held_law (fun w' => w'.cell? ⟨p, 2, none⟩ = some (.map (some b)) ∧ w'.cell? ⟨w.heap.size, 0, none⟩ = some (.int .i64 ((s.rev : Int) + 1)) ∧ w'.cell? ⟨w.heap.size, 1, none⟩ = some (.string val) ∧ w'.cell? ⟨w.heap.size, 2, none⟩ = some (.bool gone)) (first | assumption | exact layS_keep hS5 rfl rfl | exact layS_keep hS5 (Below.heap_alloc _ _ _ hp5s) (Below.heap_alloc _ _ _ h5s)) ((refine step_appendL rfl _ _ 160 rfl 158 3 32 _ Try.underlying160 infoVer rfl (by decide) (.slice ah (s.vers key).length caph) _ (s.vers key).length hlen rfl ?_ #[.int .i64 ((s.rev : Int) + 1), .string val, .bool gone] _ rfl ?_ rfl hone hl1 hl2 ?_; exact (hho.alloc _).drew; exact heap_alloc_new w5 _; intro a1 cap1 w6 ho6 hg6 hB6; obtain ⟨w7, hrun, hS6, hS7, hF7⟩ := layEnd H.out HR.out HKm.out HM5 hp5 HT5.out h5s hp hS5 hhd ho6 hg6; clear ho6 hg6 hB6))
    all_goals
      clear hrun hS6 hS7
      go_wp2_with fail
      go_ret
      exact ⟨rfl, hF7⟩
end Go.Proofs.Ytcbbnmodjnnbeaa
