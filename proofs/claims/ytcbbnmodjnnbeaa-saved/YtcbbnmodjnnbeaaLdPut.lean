/- Load: the map takes a version. -/
import Derived.Test.YtcbbnmodjnnbeaaLoadP
import Derived.Test.YtcbbnmodjnnbeaaPreds
set_option linter.unusedSimpArgs false
set_option linter.unusedVariables false
namespace Go.Proofs.Ytcbbnmodjnnbeaa
open Go.RowKit
open Go.Maps (Keyed IsMap Tidy)

/-- Behind the append: the map takes the new header. -/
theorem putEnd {w5 W w6 : World} {p b : Nat} {D : DataW Value} {s : St} {x : ByteArray × Ver} {ah a1 : Option Addr} {caph cap1 : Nat} (H : StoreAt w5 p b D s) (hG : Good (s.put1 x)) (hsz : Maps.size D + 1 ≤ s.rev) (hk : x.1.size ≤ maxLen) (hW : Below w5.heap.size w5 W)
    (hhd : hdAt D x.1 (.slice ah (s.vers x.1).length caph)) (ho6 : w6.ownL 158 3 (.slice a1 ((s.vers x.1).length + 1) cap1) ((s.vers x.1).map Ver.cells ++ [x.2.cells])) (hg6 : Grew W w6 (.slice ah (s.vers x.1).length caph) (.slice a1 ((s.vers x.1).length + 1) cap1)) :
    ∃ w7 D', (Instr.mapUpdate 136 (.map (some b)) (.string x.1) (.slice a1 ((s.vers x.1).length + 1) cap1)).run Try.prog w6 = .ok () w7 ∧ StoreAt w7 p b D' (s.put1 x) ∧ (∀ y, footM b D' y → footM b D y ∨ w5.heap.size ≤ y) ∧ w5.turned w7 (footS p b D) ∧ Maps.size D' ≤ Maps.size D + 1 ∧ (∀ q, q < w5.heap.size → ¬ footM b D q → w6.heap[q]? = w5.heap[q]? ∧ w7.heap[q]? = w5.heap[q]?) := by
  have hpb := H.pb
  have hp5 : p < w5.heap.size := (Array.getElem?_eq_some_iff.1 H.blk).1
  have hb5 := H.map.map.lt
  have hWs := hW.size
  have hoff : ∀ y, (Value.slice ah (s.vers x.1).length caph).ownBlock = some y → y ≠ b ∧ y ≠ p ∧ y < w5.heap.size := fun y hy => ⟨(H.map.off x.1 _ y hhd hy).1, (H.map.off x.1 _ y hhd hy).2, (H.map.own hhd).lt hy⟩
  have e6p : w6.heap[p]? = w5.heap[p]? := (hg6.keep (by omega) fun h => (hoff p h).2.1 rfl).trans (hW.block p hp5)
  have e6b : w6.heap[b]? = w5.heap[b]? := (hg6.keep (by omega) fun h => (hoff b h).1 rfl).trans (hW.block b hb5)
  have hm6 : w6.ownsMap Try.prog 9 rawElem b (Maps.size D) D := ownsMap_keep H.map.map e6b
  have hs6 := hg6.g.size
  have hrev := H.good.rev
  obtain ⟨w7, hrun, hm7, hg7⟩ := hm6.update strKeyed Try.underlying136 (by unfold maxLen; omega) (key_of x.1 hk) (val := .slice a1 ((s.vers x.1).length + 1) cap1) (d := .held (.slice a1 ((s.vers x.1).length + 1) cap1)) (ps := []) rfl
  have e7p : w7.heap[p]? = w6.heap[p]? := hg7.block p (by omega) fun h => hpb (by injection h)
  have hHM : HMap W p b D s.vers := H.map.keep fun y hy => hW.block y (H.map.foot_lt hy)
  have hvs : (s.vers x.1 ++ [x.2]).map Ver.cells = (s.vers x.1).map Ver.cells ++ [x.2.cells] := by rw [List.map_append]; rfl
  have hput := hHM.put x.1 _ _ (s.vers x.1 ++ [x.2]) hhd (by simp) (by omega) hg6 (by rw [hvs]; exact ho6) hm7 hg7
  obtain ⟨hM7, hf7⟩ := hput
  have hsz7 : Maps.size (D.put (kl x.1) (.held (.slice a1 ((s.vers x.1).length + 1) cap1))) ≤ Maps.size D + 1 := by
    rw [Maps.size_put (H.map.map.tidy strKeyed)]
    split <;> omega
  refine ⟨w7, _, hrun, ⟨(e7p.trans e6p).trans H.blk, hM7, hG, Nat.le_trans hsz7 hsz⟩, fun y hy => ?_, ?_, hsz7, fun q hq hqf => ?_⟩
  · rcases hf7 y hy with h1 | h1
    · exact .inl h1
    · exact .inr (by omega)
  · refine ((World.turned.of_below hW (footS p b D)).grew hg6 fun k hk h => .inr (.inr ⟨x.1, _, hhd, h⟩)).trans (.of_grown hg7) fun k hk h => ?_
    injection h with h
    exact .inr (.inl h.symm)
  · have h6 : w6.heap[q]? = w5.heap[q]? := (hg6.keep (by omega) fun h => hqf (.inr ⟨x.1, _, hhd, h⟩)).trans (hW.block q hq)
    exact ⟨h6, (hg7.block q (by omega) fun h => hqf (.inl (Option.some.inj h))).trans h6⟩
theorem putS_keep {w w' : World} {p b q r : Nat} {val : ByteArray} {gone : Bool} (h : w.cell? ⟨p, 2, none⟩ = some (.map (some b)) ∧ w.cell? ⟨q, 0, none⟩ = some (.int .i64 (r : Int)) ∧ w.cell? ⟨q, 1, none⟩ = some (.string val) ∧ w.cell? ⟨q, 2, none⟩ = some (.bool gone)) (hp : w'.heap[p]? = w.heap[p]?) (hq : w'.heap[q]? = w.heap[q]?) :
    w'.cell? ⟨p, 2, none⟩ = some (.map (some b)) ∧ w'.cell? ⟨q, 0, none⟩ = some (.int .i64 (r : Int)) ∧ w'.cell? ⟨q, 1, none⟩ = some (.string val) ∧ w'.cell? ⟨q, 2, none⟩ = some (.bool gone) :=
  ⟨(World.cell?_of_block hp).trans h.1, (World.cell?_of_block hq).trans h.2.1, (World.cell?_of_block hq).trans h.2.2.1, (World.cell?_of_block hq).trans h.2.2.2⟩
end Go.Proofs.Ytcbbnmodjnnbeaa
