/- The document's example of a store: the pure side. -/
import Derived.Test.YtcbbnmodjnnbeaaDoW
import Derived.Test.YtcbbnmodjnnbeaaRangeW
import Derived.Test.YtcbbnmodjnnbeaaSameFnd
set_option linter.unusedSimpArgs false
set_option linter.unusedVariables false
namespace Go.Proofs.Ytcbbnmodjnnbeaa
open Go.RowKit

abbrev xA : ByteArray := ⟨#[97]⟩
abbrev xB : ByteArray := ⟨#[98]⟩
abbrev x1 : ByteArray := ⟨#[49]⟩
abbrev x2 : ByteArray := ⟨#[50]⟩
abbrev x3 : ByteArray := ⟨#[51]⟩
abbrev xN : ByteArray := ⟨#[]⟩
def cmds4 : List Cmd := [⟨1, xA, x1, xN, 0, 0, 0⟩, ⟨1, xB, x2, xN, 0, 0, 0⟩, ⟨3, xA, x3, x1, 0, 0, 0⟩, ⟨2, xB, xN, xN, 0, 0, 0⟩]
def st4 : St := (((St.empty.lay xA x1 false).lay xB x2 false).lay xA x3 false).lay xB xN true
theorem may4 : ∀ c ∈ cmds4, c.may = true := by
  intro c hc
  simp only [cmds4, List.mem_cons, List.not_mem_nil, or_false] at hc
  rcases hc with rfl | rfl | rfl | rfl <;> rfl
theorem doAll4 : doAll St.empty cmds4 = ([⟨true, 1, false⟩, ⟨true, 2, false⟩, ⟨true, 3, false⟩, ⟨true, 4, false⟩], st4) := by rfl
theorem vers4 (k : ByteArray) : st4.vers k = if k = xB then [⟨2, x2, false⟩, ⟨4, xN, true⟩] else if k = xA then [⟨1, x1, false⟩, ⟨3, x3, false⟩] else [] := by
  by_cases h1 : k = xB
  · subst h1; rfl
  · by_cases h2 : k = xA
    · subst h2; rfl
    · rw [if_neg h1, if_neg h2]
      simp only [st4, St.lay, if_neg h1, if_neg h2]
      rfl
theorem range42 : RangeIs st4 xN xN 2 [⟨xA, x1, 1⟩, ⟨xB, x2, 2⟩] := by
  refine ⟨by simp; decide, fun f => ?_⟩
  rw [vers4]
  constructor
  · intro hf
    simp only [List.mem_cons, List.not_mem_nil, or_false] at hf
    rcases hf with rfl | rfl
    · exact ⟨by simp, .inl rfl, 1, rfl, rfl⟩
    · exact ⟨by simp, .inl rfl, 2, rfl, rfl⟩
  · rintro ⟨_, _, r, h1, h2⟩
    obtain ⟨fk, fv, fr⟩ := f
    simp only at h1 h2
    by_cases e1 : fk = xB
    · rw [if_pos e1] at h1
      have : some (x2, 2) = some (fv, r) := h1
      injection this with this; injection this with e2 e3
      subst e1 e2 e3 h2; simp
    · rw [if_neg e1] at h1
      by_cases e4 : fk = xA
      · rw [if_pos e4] at h1
        have : some (x1, 1) = some (fv, r) := h1
        injection this with this; injection this with e2 e3
        subst e4 e2 e3 h2; simp
      · rw [if_neg e4] at h1
        have : (none : Option (ByteArray × Nat)) = some (fv, r) := h1
        cases this
theorem range44 : RangeIs st4 xN xN 4 [⟨xA, x3, 3⟩] := by
  refine ⟨by simp, fun f => ?_⟩
  rw [vers4]
  constructor
  · intro hf
    simp only [List.mem_cons, List.not_mem_nil, or_false] at hf
    subst hf
    exact ⟨by simp, .inl rfl, 3, rfl, rfl⟩
  · rintro ⟨_, _, r, h1, h2⟩
    obtain ⟨fk, fv, fr⟩ := f
    simp only at h1 h2
    by_cases e1 : fk = xB
    · rw [if_pos e1] at h1
      have : (none : Option (ByteArray × Nat)) = some (fv, r) := h1
      cases this
    · rw [if_neg e1] at h1
      by_cases e4 : fk = xA
      · rw [if_pos e4] at h1
        have : some (x3, 3) = some (fv, r) := h1
        injection this with this; injection this with e2 e3
        subst e4 e2 e3 h2; simp
      · rw [if_neg e4] at h1
        have : (none : Option (ByteArray × Nat)) = some (fv, r) := h1
        cases this
theorem reads_block {w : World} {q sz cap : Nat} {T : TypeId} {cs : List (List Value)} {arr : Array Value} (h : w.heap[q]? = some (.cells arr T)) (ha : arr.toList = cs.flatten) (hs : ∀ c ∈ cs, c.length = sz) : w.reads sz (.slice (some ⟨q, 0, none⟩) cs.length cap) cs := by
  refine .inr ⟨q, 0, cap, rfl, (Array.getElem?_eq_some_iff.1 h).1, fun i c hi => ⟨hs c (List.mem_of_getElem? hi), fun j v hj => ?_⟩⟩
  have hjl : j < sz := by rw [← hs c (List.mem_of_getElem? hi)]; exact (List.getElem?_eq_some_iff.1 hj).1
  have := flatten_at sz cs i c hs hi j hjl
  rw [← ha, hj] at this
  simp only [World.cell?, h, Nat.zero_add]
  rw [← Array.getElem?_toList]
  exact this
theorem holdsDo (W : World) (p b : Nat) (D : DataW Value) (h : StoreAt W p b D St.empty) (q : Nat) (hq : ¬ footS p b D q) (hc : W.heap[q]? = some (.cells (cmds4.map Cmd.cells).flatten.toArray 23)) :
    Calls Try.prog 31 #[.pointer (some ⟨p, 0, none⟩), .slice (some ⟨q, 0, none⟩) 4 4] W fun e w' => ∃ g D', e = .returned (.tuple #[.slice (some ⟨g, 0, none⟩) 4 4, .int .i64 0]) ∧ g < w'.heap.size ∧ w'.cell? ⟨g, 9, none⟩ = some (.bool true) ∧ w'.cell? ⟨g, 10, none⟩ = some (.int .i64 4) ∧ W.heap.size ≤ g ∧
      StoreAt w' p b D' st4 ∧ (∀ x, footM b D' x → footM b D x ∨ W.heap.size ≤ x) ∧ W.turned w' (footS p b D) := by
  have hr : W.reads 7 (.slice (some ⟨q, 0, none⟩) cmds4.length 4) (cmds4.map Cmd.cells) := reads_block (cs := cmds4.map Cmd.cells) hc (by simp) (fun c hc => by obtain ⟨x, _, rfl⟩ := List.mem_map.1 hc; rfl)
  refine (storeDoYes W p b D _ h _ 4 cmds4 hr (fun k hk => by cases hk; exact hq) (by decide) may4).mono ?_
  rintro e w' ⟨g, D', rfl, ho, hg, _, hS, hF, ht⟩
  rw [doAll4] at ho hS
  have h1 := ho.reads
  rcases h1 with ⟨h2, _⟩ | ⟨g', off, cap, hv, hg', hcell⟩
  · cases h2
  · injection hv with e1 e2 e3
    injection e1 with e1
    injection e1 with e4 e5 _
    subst e4 e5
    obtain ⟨_, h3⟩ := hcell 3 _ rfl
    exact ⟨g, D', rfl, hg', h3 0 _ rfl, h3 1 _ rfl, hg, hS, hF, ht⟩
theorem holdsRange (W : World) (p b : Nat) (D : DataW Value) (h : StoreAt W p b D st4) (rev : Nat) (l : List Fnd) (hl : RangeIs st4 xN xN rev l) (hle : l.length ≤ 9) (hrev : rev ≤ 4) :
    Calls Try.prog 32 #[.pointer (some ⟨p, 0, none⟩), .string xN, .string xN, .int .i64 rev, .int .i64 9] W fun e w' => ∃ a cap, e = .returned (.tuple #[.slice a l.length cap, .int .i64 0]) ∧ w'.reads 3 (.slice a l.length cap) (l.map Fnd.cells) ∧ Below W.heap.size W w' := by
  refine (storeRangeOk W p b D _ h xN xN rev 9 (by show ((0 : Nat) : Int) ≤ _; omega) (by show _ ≤ ((4 : Nat) : Int); omega) (by decide)).mono ?_
  rintro e w' ⟨l', v, rfl, hl', ho, _, hb⟩
  have : l' = l := hl'.unique hl fun _ => rfl
  subst this
  rw [List.take_of_length_le hle] at ho
  obtain ⟨a, cap, hv⟩ := ho.len
  rw [List.length_map] at hv
  subst hv
  exact ⟨a, cap, rfl, ho.reads, hb⟩
theorem holdsRange2 (W : World) (p b : Nat) (D : DataW Value) (h : StoreAt W p b D st4) : Calls Try.prog 32 #[.pointer (some ⟨p, 0, none⟩), .string xN, .string xN, .int .i64 2, .int .i64 9] W fun e w' => ∃ a cap, e = .returned (.tuple #[.slice a 2 cap, .int .i64 0]) ∧ w'.reads 3 (.slice a 2 cap) ([(⟨xA, x1, 1⟩ : Fnd), ⟨xB, x2, 2⟩].map Fnd.cells) ∧ Below W.heap.size W w' :=
  holdsRange W p b D h 2 _ range42 (by simp) (by decide)
theorem holdsRange4 (W : World) (p b : Nat) (D : DataW Value) (h : StoreAt W p b D st4) : Calls Try.prog 32 #[.pointer (some ⟨p, 0, none⟩), .string xN, .string xN, .int .i64 4, .int .i64 9] W fun e w' => ∃ a cap, e = .returned (.tuple #[.slice a 1 cap, .int .i64 0]) ∧ w'.reads 3 (.slice a 1 cap) ([(⟨xA, x3, 3⟩ : Fnd)].map Fnd.cells) ∧ Below W.heap.size W w' :=
  holdsRange W p b D h 4 _ range44 (by simp) (by decide)
theorem holdsRevs (W : World) (p b : Nat) (D : DataW Value) (h : StoreAt W p b D st4) : Calls Try.prog 30 #[.pointer (some ⟨p, 0, none⟩)] W fun e w' => e = .returned (.tuple #[.int .i64 4, .int .i64 0]) ∧ Below W.heap.size W w' := storeRevs W p b D st4 h
theorem holdsSame2 (W : World) (a1 : Option Addr) (c1 q : Nat) (h1 : W.reads 3 (.slice a1 2 c1) ([(⟨xA, x1, 1⟩ : Fnd), ⟨xB, x2, 2⟩].map Fnd.cells)) (h2 : W.heap[q]? = some (.cells #[.string xA, .string x1, .int .i64 1, .string xB, .string x2, .int .i64 2] 131)) :
    Calls Try.prog 33 #[.slice a1 2 c1, .slice (some ⟨q, 0, none⟩) 2 2] W fun e w' => e = .returned (.bool true) ∧ ∃ n, w' = W.drewN n :=
  sameFounds_same a1 (some ⟨q, 0, none⟩) c1 2 [⟨xA, x1, 1⟩, ⟨xB, x2, 2⟩] W (by simp) h1 (reads_block (cs := [(⟨xA, x1, 1⟩ : Fnd), ⟨xB, x2, 2⟩].map Fnd.cells) h2 rfl (fun c hc => by obtain ⟨x, _, rfl⟩ := List.mem_map.1 hc; rfl))
theorem holdsSame4 (W : World) (a1 : Option Addr) (c1 q : Nat) (h1 : W.reads 3 (.slice a1 1 c1) ([(⟨xA, x3, 3⟩ : Fnd)].map Fnd.cells)) (h2 : W.heap[q]? = some (.cells #[.string xA, .string x3, .int .i64 3] 131)) :
    Calls Try.prog 33 #[.slice a1 1 c1, .slice (some ⟨q, 0, none⟩) 1 1] W fun e w' => e = .returned (.bool true) ∧ ∃ n, w' = W.drewN n :=
  sameFounds_same a1 (some ⟨q, 0, none⟩) c1 1 [⟨xA, x3, 3⟩] W (by simp) h1 (reads_block (cs := [(⟨xA, x3, 3⟩ : Fnd)].map Fnd.cells) h2 rfl (fun c hc => by obtain ⟨x, _, rfl⟩ := List.mem_map.1 hc; rfl))
theorem readsGrown {w w' : World} {sz : Nat} {v : Value} {cs : List (List Value)} (h : w.reads sz v cs) (hb : Below w.heap.size w w') : w'.reads sz v cs := h.keep fun k hk => hb.block k (reads_lt' h hk)
end Go.Proofs.Ytcbbnmodjnnbeaa
