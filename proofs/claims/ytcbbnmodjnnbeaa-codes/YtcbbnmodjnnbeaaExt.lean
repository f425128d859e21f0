/- Worlds that have grown: old blocks as they were, new ones behind them, some draws. -/
import Derived.WalkKit
import Derived.WalkSpells
import Derived.WalkLawsBesides
import Derived.Deep.Quiet
import Derived.Deep.QuietTactic
set_option linter.unusedSimpArgs false
set_option linter.unusedVariables false
namespace Go
open Go.RowKit
structure Grow where
  new : Array Obj
  at_ : Nat
def World.ext (w : World) (x : Grow) : World := { w with heap := w.heap ++ x.new, drawn := x.at_ }
@[go_sem] theorem Grow.const (p : Prop) : (∀ _ : Grow, p) ↔ p := ⟨fun h => h ⟨#[], 0⟩, fun h _ => h⟩
@[go_sem] theorem lt_add_more (a b c : Nat) (h : a < b) : (a < b + c) = True := eq_true (Nat.lt_of_lt_of_le h (Nat.le_add_right _ _))
@[go_sem] theorem lt_add_more2 (a b c d : Nat) (h : a < b) : (a < b + c + d) = True := eq_true (by omega)
@[go_sem] theorem lt_add_more3 (a b c d e : Nat) (h : a < b) : (a < b + c + d + e) = True := eq_true (by omega)
@[go_sem] theorem lt_add_more4 (a b c d e f : Nat) (h : a < b) : (a < b + c + d + e + f) = True := eq_true (by omega)
@[go_sem] theorem lt_add_more5 (a b c d e f g : Nat) (h : a < b) : (a < b + c + d + e + f + g) = True := eq_true (by omega)
@[go_sem] theorem lt_add_more6 (a b c d e f g i : Nat) (h : a < b) : (a < b + c + d + e + f + g + i) = True := eq_true (by omega)
theorem Below.ext {w w' : World} (h : Below w.heap.size w w') : ∃ x, w' = w.ext x := by
  refine ⟨⟨w'.heap.extract w.heap.size w'.heap.size, w'.drawn⟩, ?_⟩
  have h1 : w'.heap = w.heap ++ w'.heap.extract w.heap.size w'.heap.size := by
    apply Array.ext_getElem?
    intro i
    by_cases hi : i < w.heap.size
    · rw [h.block i hi, Array.getElem?_append_left hi]
    · have hs := h.size
      rw [Array.getElem?_append_right (by omega), Array.getElem?_extract]
      split
      · congr 1; omega
      · rw [Array.getElem?_eq_none (by omega)]
  have h2 := h.os
  have h3 := h.tape
  have h4 := h.output
  cases w'; cases w
  simp only [World.ext] at *
  subst h2 h3 h4
  congr 1
theorem Below.of_ext (w : World) (x : Grow) : Below w.heap.size w (w.ext x) :=
  ⟨rfl, rfl, rfl, by simp [World.ext], fun k hk => by simp only [World.ext]; rw [Array.getElem?_append_left hk]⟩
@[go_sem] theorem World.ext_size (w : World) (x : Grow) : (w.ext x).heap.size = w.heap.size + x.new.size := by simp [World.ext]
@[go_sem] theorem World.ext_cell (w : World) (x : Grow) (b o : Nat) (h : b < w.heap.size) : (w.ext x).cell? ⟨b, o, none⟩ = w.cell? ⟨b, o, none⟩ :=
  (Below.of_ext w x).cell (p := ⟨b, o, none⟩) h
@[go_sem] theorem World.ext_frozen (w : World) (x : Grow) (b o : Nat) (h : b < w.heap.size) : (w.ext x).frozen? ⟨b, o, none⟩ = w.frozen? ⟨b, o, none⟩ :=
  (Below.of_ext w x).frozen (p := ⟨b, o, none⟩) h
@[go_sem] theorem World.ext_setCell (w : World) (x : Grow) (b o : Nat) (v : Value) (h : b < w.heap.size) : (w.ext x).setCell ⟨b, o, none⟩ v = (w.setCell ⟨b, o, none⟩ v).ext x := by
  unfold World.setCell World.ext
  congr 1
  apply Array.ext_getElem?
  intro i
  simp only [Array.getElem?_modify]
  by_cases hi : i < w.heap.size
  · rw [Array.getElem?_append_left hi, Array.getElem?_append_left (by simpa using hi), Array.getElem?_modify]
  · rw [Array.getElem?_append_right (by omega), Array.getElem?_append_right (by simpa using Nat.le_of_not_lt hi), if_neg (by omega)]
    simp
theorem World.ext_ext (w : World) (x y : Grow) : (w.ext x).ext y = w.ext ⟨x.new ++ y.new, y.at_⟩ := by simp [World.ext]
@[go_sem] theorem World.ext_drew (w : World) (x : Grow) : (w.ext x).drew = w.ext ⟨x.new, x.at_ + 1⟩ := rfl
theorem Gr.ext {w w' : World} (h : Below w.heap.size w w') (x : Grow) : Below w.heap.size w (w'.ext x) := h.trans ((Below.of_ext w' x).mono h.size)
theorem Gr.alloc {w w' : World} (h : Below w.heap.size w w') (o : Obj) : Below w.heap.size w (w'.alloc o) := h.alloc h.size o
theorem Gr.drew {w w' : World} (h : Below w.heap.size w w') : Below w.heap.size w w'.drew := h.drew
theorem Gr.set {w w' : World} (h : Below w.heap.size w w') {p : Addr} (hp : w.heap.size ≤ p.block) (u : Value) : Below w.heap.size w (w'.setCell p u) := h.setCell hp u
theorem Hp.alloc {w : World} {i : Nat} {x : Obj} (h : w.heap[i]? = some x) (o : Obj) : (w.alloc o).heap[i]? = some x := by
  rw [Below.heap_alloc _ _ _ (Array.getElem?_eq_some_iff.1 h).1]; exact h
theorem Hp.new {w : World} {i : Nat} {o : Obj} (h : i = w.heap.size) : (w.alloc o).heap[i]? = some o := by subst h; exact heap_alloc_new w o
theorem Hp.ext {w : World} {i : Nat} {x : Obj} (h : w.heap[i]? = some x) (g : Grow) : (w.ext g).heap[i]? = some x := by
  rw [(Below.of_ext w g).block i (Array.getElem?_eq_some_iff.1 h).1]; exact h
theorem Hp.drew {w : World} {i : Nat} {x : Obj} (h : w.heap[i]? = some x) : w.drew.heap[i]? = some x := h
theorem Hp.set {w : World} {i : Nat} {x : Obj} (h : w.heap[i]? = some x) {p : Addr} (hp : p.block ≠ i) (u : Value) : (w.setCell p u).heap[i]? = some x := by
  rw [Below.heap_setCell _ _ _ _ (fun e => hp e.symm)]; exact h
theorem world_any {R : Act → World → Prop} {a : Act} {W : World} (F : World → Prop) (hF : F W) (h : ∀ W', F W' → R a W') : R a W := h W hF
theorem wrap_id (n : Int) (h0 : -9223372036854775808 ≤ n) (h1 : n ≤ 9223372036854775807) : IntKind.i64.wrap n = n := by rw [IntKind.wrap_i64]; omega
theorem len_data (s : ByteArray) : s.data.toList.length = s.size := by simp
/-- A callee that only makes memory, met in a world of the class. -/
theorem Calls.grows {P : Program} {f : FuncId} {args : Array Value} {W : World} {x : Grow} {v : Value}
    (h : Calls P f args (W.ext x) fun e w' => e = .returned v ∧ Below (W.ext x).heap.size (W.ext x) w') :
    Calls P f args (W.ext x) fun e w' => e = .returned v ∧ ∃ y, w' = W.ext y :=
  h.mono fun e w' ⟨he, hb⟩ => by obtain ⟨y, rfl⟩ := Below.ext hb; exact ⟨he, _, by rw [World.ext_ext]⟩
theorem wp_region_grows {P : Program} {id : Nat} {Q : Exit → Act → World → Prop} {a : Act} {w : World} {l : List Oper} (hm : P.follows .mixedOrders = true) (hB : Region.lexB .any l.toArray = true)
    (h : wpQuiet P l.toArray (fun w' => ∃ x, w' = w.ext x) (fun a' => ∀ w', (∃ x, w' = w.ext x) → Q .normal a' w') l a) : (Code.region id l.toArray true).wp P Q a w :=
  wp_region_quiet (C := fun w' => ∃ x, w' = w.ext x) hm hB ⟨⟨#[], w.drawn + 1⟩, by simp [World.ext]⟩ (by simpa using h)
end Go
