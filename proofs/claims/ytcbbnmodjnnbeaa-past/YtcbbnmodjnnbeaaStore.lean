/- The program's store in memory: its block, its map of histories, its sessions. -/
import Derived.Test.YtcbbnmodjnnbeaaHist2
import Derived.Test.YtcbbnmodjnnbeaaEqs
import Derived.Test.YtcbbnmodjnnbeaaBook
import Derived.Maps.OwnSet
import Derived.Maps.RangeWalk
set_option linter.unusedSimpArgs false
set_option linter.unusedVariables false
namespace Go.Proofs.Ytcbbnmodjnnbeaa
open Go.RowKit
open Go.Maps (Keyed IsMap Tidy)
open Go.ChangeShapes Go.WideShapes Go.MapKept

abbrev nilS : Value := .slice none 0 0
/-- An element read as it stands: the slice's header. -/
def rawElem : Value → Option (DataW Value × List MemPlace)
  | .slice a n c => some (.held (.slice a n c), [])
  | _ => none
theorem rawElem_inv {v : Value} {y : DataW Value × List MemPlace} (h : rawElem v = some y) : y = (.held v, []) ∧ ∃ a n c, v = .slice a n c := by
  cases v <;> simp [rawElem] at h
  exact ⟨h.symm, _, _, _, rfl⟩
theorem strKeyed : Keyed Try.prog 9 := Maps.string_keyed Try.underlying9
def kl (k : ByteArray) : Lit := .string k.data.toList
theorem bytes_ext' {a b : ByteArray} (h : a.data.toList = b.data.toList) : a = b := by
  obtain ⟨⟨x⟩⟩ := a; obtain ⟨⟨y⟩⟩ := b; simp at h; subst h; rfl
theorem kl_inj {a b : ByteArray} (h : kl a = kl b) : a = b := bytes_ext' (by injection h)
theorem key_of (k : ByteArray) (h : k.size ≤ maxLen) : keyOf Try.prog 9 (.string k) = some (kl k) := Go.WideMaps.keyOf_string_mk Try.underlying9 h
theorem kl_key (k : ByteArray) : WideAt.IsKeyLit (kl k) := trivial
/-- The header at a key. -/
def hdAt (D : DataW Value) (k : ByteArray) (v : Value) : Prop := D.atKey (kl k) (.held nilS) = .held v
theorem hdAt_one {D : DataW Value} {k : ByteArray} {v v' : Value} (h : hdAt D k v) (h' : hdAt D k v') : v = v' := by
  unfold hdAt at h h'; rw [h] at h'; injection h'

/-- The map of histories: block b reads as D; each key's header owns its versions; no two share a block, nor with the store's own block p. -/
structure HMap (w : World) (p b : Nat) (D : DataW Value) (vers : ByteArray → List Ver) : Prop where
  map : w.ownsMap Try.prog 9 rawElem b (Maps.size D) D
  hist : ∀ k, ∃ v, hdAt D k v ∧ w.ownL 158 3 v ((vers k).map Ver.cells)
  off : ∀ k v x, hdAt D k v → v.ownBlock = some x → x ≠ b ∧ x ≠ p
  apart : ∀ k k' v v' x, k ≠ k' → hdAt D k v → hdAt D k' v' → v.ownBlock = some x → v'.ownBlock ≠ some x
  has : ∀ k, Maps.has D (kl k) = true ↔ vers k ≠ []
def footM (b : Nat) (D : DataW Value) (x : Nat) : Prop := x = b ∨ ∃ k v, hdAt D k v ∧ v.ownBlock = some x
theorem HMap.own {w : World} {p b : Nat} {D : DataW Value} {vers : ByteArray → List Ver} (h : HMap w p b D vers) {k : ByteArray} {v : Value} (hv : hdAt D k v) : w.ownL 158 3 v ((vers k).map Ver.cells) := by
  obtain ⟨v', h1, h2⟩ := h.hist k
  rw [hdAt_one hv h1]; exact h2
theorem HMap.foot_lt {w : World} {p b : Nat} {D : DataW Value} {vers : ByteArray → List Ver} (h : HMap w p b D vers) {x : Nat} (hx : footM b D x) : x < w.heap.size := by
  rcases hx with rfl | ⟨k, v, hv, hx⟩
  · exact h.map.lt
  · exact (h.own hv).lt hx
theorem ownsMap_keep {w w' : World} {P : Program} {k : TypeId} {H : Type} {R : Value → Option (DataW H × List MemPlace)} {b n : Nat} {D : DataW H} (h : w.ownsMap P k R b n D) (hb : w'.heap[b]? = w.heap[b]?) : w'.ownsMap P k R b n D := by
  obtain ⟨es, clock, h1, h2⟩ := h
  exact ⟨es, clock, hb.trans h1, h2⟩
theorem ownsMap_tight {w : World} {P : Program} {k : TypeId} {H : Type} {R : Value → Option (DataW H × List MemPlace)} {b n : Nat} {D : DataW H} (h : w.ownsMap P k R b n D) : w.ownsMap P k R b (Maps.size D) D := by
  obtain ⟨es, clock, h1, h2, h3, rfl⟩ := h
  refine ⟨es, clock, h1, h2, ?_, rfl⟩
  show es.size ≤ _
  simp only [Maps.size]
  rw [length_sorted]
  simp
theorem HMap.keep {w w' : World} {p b : Nat} {D : DataW Value} {vers : ByteArray → List Ver} (h : HMap w p b D vers) (hh : ∀ x, footM b D x → w'.heap[x]? = w.heap[x]?) : HMap w' p b D vers :=
  ⟨ownsMap_keep h.map (hh b (.inl rfl)), fun k => by
    obtain ⟨v, h1, h2⟩ := h.hist k
    exact ⟨v, h1, h2.keep fun x hx => hh x (.inr ⟨k, v, h1, hx⟩)⟩, h.off, h.apart, h.has⟩
theorem HMap.turned {w w' : World} {p b : Nat} {D : DataW Value} {vers : ByteArray → List Ver} {S : Nat → Prop} (h : HMap w p b D vers) (ht : w.turned w' S) (hS : ∀ x, footM b D x → ¬ S x) : HMap w' p b D vers :=
  h.keep fun x hx => ht.block x (h.foot_lt hx) (hS x hx)

/-- One key's history has been written anew. -/
theorem HMap.put {w w1 w2 : World} {p b : Nat} {D : DataW Value} {vers : ByteArray → List Ver} (h : HMap w p b D vers) (key : ByteArray) (v v' : Value) (vs : List Ver) (hv : hdAt D key v) (hne : vs ≠ []) (hp : p < w.heap.size)
    (hg : Grew w w1 v v') (ho : w1.ownL 158 3 v' (vs.map Ver.cells)) (hm : w2.ownsMap Try.prog 9 rawElem b (Maps.size D + 1) (D.put (kl key) (.held v'))) (hg2 : w1.grownBy w2 (some b)) :
    HMap w2 p b (D.put (kl key) (.held v')) (fun k => if k = key then vs else vers k) ∧ (∀ x, footM b (D.put (kl key) (.held v')) x → footM b D x ∨ w.heap.size ≤ x) := by
  have hput : ∀ k u, hdAt (D.put (kl key) (.held v')) k u ↔ (k = key ∧ u = v') ∨ (k ≠ key ∧ hdAt D k u) := by
    intro k u
    by_cases hk : k = key
    · subst hk
      unfold hdAt
      rw [Maps.atKey_put_same h.map.isMap (kl_key k)]
      constructor
      · intro e; injection e with e; exact .inl ⟨rfl, e.symm⟩
      · rintro (⟨_, rfl⟩ | ⟨hn, _⟩)
        · rfl
        · exact absurd rfl hn
    · unfold hdAt
      rw [Maps.atKey_put_other (fun e => hk (kl_inj e))]
      constructor
      · exact fun e => .inr ⟨hk, e⟩
      · rintro (⟨hn, _⟩ | ⟨_, e⟩)
        · exact absurd hn hk
        · exact e
  have hnew : ∀ x, v'.ownBlock = some x → v.ownBlock = some x ∨ w.heap.size ≤ x := by
    intro x hx
    rcases hg.own with h1 | h1
    · exact .inl (h1 ▸ hx)
    · exact .inr (h1 x hx)
  have hblt := h.map.lt
  have hsz := hg.g.size
  have hoff' : ∀ x, v'.ownBlock = some x → x ≠ b ∧ x ≠ p := by
    intro x hx
    rcases hnew x hx with h1 | h1
    · exact h.off key v x hv h1
    · omega
  refine ⟨⟨ownsMap_tight hm, fun k => ?_, fun k u x hu hx => ?_, fun k k' u u' x hkk hu hu' hx hx' => ?_, fun k => ?_⟩, fun x hx => ?_⟩
  · by_cases hk : k = key
    · subst hk
      refine ⟨v', (hput _ _).2 (.inl ⟨rfl, rfl⟩), ?_⟩
      rw [if_pos rfl]
      exact ho.keep fun x hx => hg2.block x (ho.lt hx) (fun e => (hoff' x hx).1 (by injection e))
    · obtain ⟨u, h1, h2⟩ := h.hist k
      refine ⟨u, (hput _ _).2 (.inr ⟨hk, h1⟩), ?_⟩
      rw [if_neg hk]
      refine (h2.grew hg fun x hx hx' => h.apart k key u v x hk h1 hv hx hx').keep fun x hx => hg2.block x ?_ (fun e => (h.off k u x h1 hx).1 (by injection e))
      have := h2.lt hx; omega
  · rcases (hput _ _).1 hu with ⟨rfl, rfl⟩ | ⟨hk, hu⟩
    · exact hoff' x hx
    · exact h.off k u x hu hx
  · rcases (hput _ _).1 hu with ⟨e1, e2⟩ | ⟨hk, hq⟩
    · rcases (hput _ _).1 hu' with ⟨e3, e4⟩ | ⟨hk', hq'⟩
      · exact hkk (e1.trans e3.symm)
      · rw [e2] at hx
        rcases hnew x hx with h1 | h1
        · exact h.apart key k' v u' x (fun e => hk' e.symm) hv hq' h1 hx'
        · have := (h.own hq').lt hx'; omega
    · rcases (hput _ _).1 hu' with ⟨e3, e4⟩ | ⟨hk', hq'⟩
      · rw [e4] at hx'
        rcases hnew x hx' with h1 | h1
        · exact h.apart k key u v x hk hq hv hx h1
        · have := (h.own hq).lt hx; omega
      · exact h.apart k k' u u' x hkk hq hq' hx hx'
  · by_cases hk : k = key
    · subst hk
      rw [Maps.has_put_same h.map.isMap (kl_key k), if_pos rfl]
      exact ⟨fun _ => hne, fun _ => rfl⟩
    · rw [Maps.has_put_other (fun e => hk (kl_inj e)), if_neg hk]
      exact h.has k
  · rcases hx with rfl | ⟨k, u, hu, hx⟩
    · exact .inl (.inl rfl)
    · rcases (hput _ _).1 hu with ⟨rfl, rfl⟩ | ⟨hk, hu⟩
      · rcases hnew x hx with h1 | h1
        · exact .inl (.inr ⟨_, v, hv, h1⟩)
        · exact .inr h1
      · exact .inl (.inr ⟨k, u, hu, hx⟩)
end Go.Proofs.Ytcbbnmodjnnbeaa
