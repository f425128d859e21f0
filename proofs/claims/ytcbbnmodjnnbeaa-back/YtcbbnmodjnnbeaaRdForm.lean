/- A Reader's world in one form. -/
import Derived.Test.YtcbbnmodjnnbeaaReader
set_option linter.unusedSimpArgs false
set_option linter.unusedVariables false
namespace Go
open Go.RowKit
def World.putRd (w : World) (p : Nat) (l : List UInt8) (b : Bool) : World := (w.setCell ⟨p, 0, none⟩ (.string (Go.Proofs.Ytcbbnmodjnnbeaa.B l))).setCell ⟨p, 1, none⟩ (.bool b)
@[go_sem] theorem World.putRd_size (w : World) (p : Nat) (l : List UInt8) (b : Bool) : (w.putRd p l b).heap.size = w.heap.size := by simp [World.putRd]
@[go_sem] theorem ne_add1 (a p c : Nat) (h : p < a) : (a + c = p) = False := eq_false (by omega)
@[go_sem] theorem ne_add2 (a p c d : Nat) (h : p < a) : (a + c + d = p) = False := eq_false (by omega)
@[go_sem] theorem ne_add3 (a p c d e : Nat) (h : p < a) : (a + c + d + e = p) = False := eq_false (by omega)
@[go_sem] theorem ne_add4 (a p c d e f : Nat) (h : p < a) : (a + c + d + e + f = p) = False := eq_false (by omega)
@[go_sem] theorem ne_add5 (a p c d e f g : Nat) (h : p < a) : (a + c + d + e + f + g = p) = False := eq_false (by omega)
theorem putRd_heap (w : World) (p : Nat) (l : List UInt8) (b : Bool) (i : Nat) : (w.putRd p l b).heap[i]? = if i = p then (w.heap[i]?).map (fun o => match o with | .cells c e f => .cells ((c.setIfInBounds 0 (.string (Go.Proofs.Ytcbbnmodjnnbeaa.B l))).setIfInBounds 1 (.bool b)) e f | o => o) else w.heap[i]? := by
  by_cases h : i = p
  · subst h
    simp only [World.putRd, World.setCell, Array.getElem?_modify, if_true]
    cases w.heap[i]? with
    | none => rfl
    | some o => cases o <;> rfl
  · simp only [World.putRd, World.setCell, Array.getElem?_modify]
    have h' : ¬ p = i := fun e => h e.symm
    simp [h, h']
theorem World.ext_heap {w w' : World} (h1 : w'.os = w.os) (h2 : w'.tape = w.tape) (h3 : w'.output = w.output) (h4 : w'.drawn = w.drawn) (h : ∀ i : Nat, w'.heap[i]? = w.heap[i]?) : w' = w := by
  have h5 : w'.heap = w.heap := Array.ext_getElem? h
  cases w; cases w'
  simp only at *
  subst h1 h2 h3 h4 h5
  rfl
theorem World.putRd_os (w : World) (p : Nat) (l : List UInt8) (b : Bool) : (w.putRd p l b).os = w.os ∧ (w.putRd p l b).tape = w.tape ∧ (w.putRd p l b).output = w.output ∧ (w.putRd p l b).drawn = w.drawn := ⟨rfl, rfl, rfl, rfl⟩
@[go_sem] theorem World.putRd_cell (w : World) (p : Nat) (l : List UInt8) (b : Bool) (q o : Nat) (h : q ≠ p) : (w.putRd p l b).cell? ⟨q, o, none⟩ = w.cell? ⟨q, o, none⟩ := by
  simp only [World.cell?, putRd_heap, if_neg h]
@[go_sem] theorem World.putRd_frozen (w : World) (p : Nat) (l : List UInt8) (b : Bool) (q o : Nat) (h : q ≠ p) : (w.putRd p l b).frozen? ⟨q, o, none⟩ = w.frozen? ⟨q, o, none⟩ := by
  simp only [World.frozen?, putRd_heap, if_neg h]
theorem setCell_heap (w : World) (q o : Nat) (v : Value) (i : Nat) : (w.setCell ⟨q, o, none⟩ v).heap[i]? = if i = q then (w.heap[i]?).map (fun x => match x with | .cells c e f => .cells (c.setIfInBounds o v) e f | x => x) else w.heap[i]? := by
  simp only [World.setCell, Array.getElem?_modify]
  by_cases h : i = q
  · subst h
    rw [if_pos rfl, if_pos rfl]
    cases w.heap[i]? with
    | none => rfl
    | some x => cases x <;> rfl
  · rw [if_neg (fun e => h e.symm), if_neg h]
@[go_sem] theorem World.putRd_setCell (w : World) (p : Nat) (l : List UInt8) (b : Bool) (q o : Nat) (v : Value) (h : q ≠ p) : (w.putRd p l b).setCell ⟨q, o, none⟩ v = (w.setCell ⟨q, o, none⟩ v).putRd p l b := by
  refine World.ext_heap rfl rfl rfl rfl fun i => ?_
  simp only [setCell_heap, putRd_heap]
  by_cases h1 : i = q
  · subst h1; simp [h]
  · simp [h1]
@[go_sem] theorem World.putRd_putRd (w : World) (p : Nat) (l l' : List UInt8) (b b' : Bool) : (w.putRd p l b).putRd p l' b' = w.putRd p l' b' := by
  refine World.ext_heap rfl rfl rfl rfl fun i => ?_
  simp only [putRd_heap]
  by_cases h1 : i = p
  · subst h1
    simp only [if_true]
    cases w.heap[i]? with
    | none => rfl
    | some x =>
      cases x <;> try rfl
      rename_i c e f
      simp only [Option.map_some]
      congr 2
      apply Array.ext_getElem?
      intro j
      simp only [Array.getElem?_setIfInBounds, Array.size_setIfInBounds]
      by_cases j0 : 0 = j <;> by_cases j1 : 1 = j <;> simp [j0, j1]
  · simp [h1]
@[go_sem] theorem World.ext_putRd (w : World) (x : Grow) (p : Nat) (l : List UInt8) (b : Bool) (h : p < w.heap.size) : (w.ext x).putRd p l b = (w.putRd p l b).ext x := by
  unfold World.putRd
  rw [World.ext_setCell _ _ _ _ _ h, World.ext_setCell _ _ _ _ _ (by simpa using h)]
@[go_sem] theorem World.putRd_alloc (w : World) (p : Nat) (l : List UInt8) (b : Bool) (o : Obj) (h : p < w.heap.size) : (w.putRd p l b).alloc o = (w.alloc o).putRd p l b := by
  refine World.ext_heap rfl rfl rfl rfl fun i => ?_
  simp only [World.alloc, Array.getElem?_push, putRd_heap, World.putRd_size]
  by_cases h1 : i = w.heap.size
  · subst h1; simp [show ¬ w.heap.size = p by omega]
  · simp [h1]
end Go
namespace Go.Proofs.Ytcbbnmodjnnbeaa
open Go.RowKit
theorem RdAt.alloc {w : World} {p : Nat} {l : List UInt8} {b : Bool} (h : RdAt w p l b) (o : Obj) : RdAt (w.alloc o) p l b := h.keep (Below.heap_alloc _ _ _ h.lt)
theorem RdAt.ext {w : World} {p : Nat} {l : List UInt8} {b : Bool} (h : RdAt w p l b) (x : Grow) : RdAt (w.ext x) p l b := h.keep ((Below.of_ext w x).block p h.lt)
theorem RdAt.put {w : World} {p : Nat} {l : List UInt8} {b : Bool} (h : RdAt w p l b) (l' : List UInt8) (b' : Bool) : RdAt (w.putRd p l' b') p l' b' := (h.set0 l').set1 b'
def RdOk (w : World) (p : Nat) : Prop := ∃ l b, RdAt w p l b
theorem rdNew (w : World) (p : Nat) (l : List UInt8) (b : Bool) (hp : p = w.heap.size) : RdAt (w.alloc (.cells #[.string (B l), .bool b] 197)) p l b := by subst hp; exact heap_alloc_new w _
theorem RdAt.ok {w : World} {p : Nat} {l : List UInt8} {b : Bool} (h : RdAt w p l b) : RdOk w p := ⟨l, b, h⟩
theorem RdOk.alloc {w : World} {p : Nat} (h : RdOk w p) (o : Obj) : RdOk (w.alloc o) p := let ⟨l, b, h⟩ := h; ⟨l, b, h.alloc o⟩
theorem RdOk.ext {w : World} {p : Nat} (h : RdOk w p) (x : Grow) : RdOk (w.ext x) p := let ⟨l, b, h⟩ := h; ⟨l, b, h.ext x⟩
theorem RdOk.put {w : World} {p : Nat} (h : RdOk w p) (l : List UInt8) (b : Bool) : RdOk (w.putRd p l b) p := let ⟨_, _, h⟩ := h; ⟨l, b, h.put l b⟩
theorem RdOk.at {w : World} {p : Nat} (h : RdOk w p) (l : List UInt8) (b : Bool) : RdAt (w.putRd p l b) p l b := let ⟨_, _, h⟩ := h; h.put l b
theorem rd_form {w w' : World} {p : Nat} {l l' : List UInt8} {b b' : Bool} (h : RdAt w p l b) (h' : RdAt w' p l' b') (hg : w.grownBy w' (some p)) : ∃ x, w' = (w.putRd p l' b').ext x := by
  have hb : Below (w.putRd p l' b').heap.size (w.putRd p l' b') w' := by
    refine ⟨hg.os, hg.tape, hg.output, by rw [World.putRd_size]; exact hg.size, fun k hk => ?_⟩
    rw [World.putRd_size] at hk
    by_cases hp : k = p
    · subst hp
      have h1 : w'.heap[k]? = _ := h'
      have h2 := h.put l' b'
      have h3 : (w.putRd k l' b').heap[k]? = _ := h2
      rw [h1, h3]
    · rw [hg.block k hk (fun e => hp (by cases e; rfl)), putRd_heap, if_neg hp]
  exact Below.ext hb
theorem rdByte (p : Nat) (l : List UInt8) (b : Bool) (w : World) (h : RdAt w p l b) (hl : l.length ≤ maxLen) :
    Calls Try.prog 109 #[.pointer (some ⟨p, 0, none⟩)] w fun e w' => e = .returned (.int .i64 (byteL l b).1) ∧ ∃ x, w' = (w.putRd p (byteL l b).2.1 (byteL l b).2.2).ext x :=
  (readerByte p l b w h hl).mono fun e w' ⟨he, hr, hg⟩ => ⟨he, rd_form h hr hg⟩
theorem rdNumber (p : Nat) (l : List UInt8) (b : Bool) (w : World) (h : RdAt w p l b) (hl : l.length ≤ maxLen) :
    Calls Try.prog 78 #[.pointer (some ⟨p, 0, none⟩)] w fun e w' => e = .returned (.int .i64 (numL l b).1) ∧ ∃ x, w' = (w.putRd p (numL l b).2.1 (numL l b).2.2).ext x :=
  (readerNumber p l b w h hl).mono fun e w' ⟨he, hr, hg⟩ => ⟨he, rd_form h hr hg⟩
theorem rdText (p : Nat) (l : List UInt8) (b : Bool) (w : World) (h : RdAt w p l b) (hl : l.length ≤ maxLen) :
    Calls Try.prog 148 #[.pointer (some ⟨p, 0, none⟩)] w fun e w' => e = .returned (.string (B (textL l b).1)) ∧ ∃ x, w' = (w.putRd p (textL l b).2.1 (textL l b).2.2).ext x :=
  (readerText p l b w h hl).mono fun e w' ⟨he, hr, hg⟩ => ⟨he, rd_form h hr hg⟩
theorem rdBlock (p : Nat) (l : List UInt8) (b : Bool) (w : World) (h : RdAt w p l b) (hl : l.length ≤ maxLen) :
    Calls Try.prog 60 #[.pointer (some ⟨p, 0, none⟩)] w fun e w' => e = .returned (.string (B (blockL l b).1)) ∧ ∃ x, w' = (w.putRd p (blockL l b).2.1 (blockL l b).2.2).ext x :=
  (readerBlock p l b w h hl).mono fun e w' ⟨he, hr, hg⟩ => ⟨he, rd_form h hr hg⟩
end Go.Proofs.Ytcbbnmodjnnbeaa
