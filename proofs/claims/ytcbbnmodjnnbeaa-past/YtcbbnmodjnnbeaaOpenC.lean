/- Arguments: a list of commands, opened. -/
import Derived.Test.YtcbbnmodjnnbeaaCells
import Derived.Test.YtcbbnmodjnnbeaaSameCmd
import Derived.Deep.Slices
set_option linter.unusedSimpArgs false
set_option linter.unusedVariables false
namespace Go.Proofs.Ytcbbnmodjnnbeaa
open Go.ChangeShapes Go.WideShapes Go.ChangeAt Go.RowKit
open Go.WideMaps Go.WideElems

theorem cellsCmd : Try.prog.cellsOf 23 = 7 := by kernel_rfl
theorem bytesCmd : Try.prog.bytesOf 23 = 80 := by kernel_rfl
instance : Inhabited Cmd := ⟨Cmd.zero⟩
variable {H : Type} {enc : TypeId × Value → H} {W : World} {base : Nat} {spare : Nat → Bool} {held : Bool}
theorem open_cmds {fuel : Nat} {a0 : Option Addr} {len cap : Nat} {d : DataW H} {p : List MemPlace} (h : DataW.trod enc Try.prog W base spare held fuel 59 [.slice a0 len cap] = some (d, p)) :
    ∃ cs : List Cmd, cs.length = len ∧ (cs ≠ [] → W.reads 7 (.slice a0 cs.length cap) (cs.map Cmd.cells)) ∧ (len = 0 ∨ ∃ es sp, d = .slice es sp ∧ es.length = len) := by
  rcases Go.Deep.open_slice Try.underlying59 h with ⟨hcs, hx⟩ | ⟨a, len', cap', m, n, D, Pl, hcs, _, hl, hm, hmm, hx, hel⟩
  · simp only [List.cons.injEq, Value.slice.injEq, and_true] at hcs
    obtain ⟨rfl, rfl, rfl⟩ := hcs
    exact ⟨[], rfl, fun h => absurd rfl h, .inl rfl⟩
  · simp only [List.cons.injEq, Value.slice.injEq, and_true] at hcs
    obtain ⟨rfl, rfl, rfl⟩ := hcs
    simp only [Prod.mk.injEq] at hx
    have hlm : len ≤ m := by rw [hmm]; split <;> omega
    obtain ⟨b, off, spot⟩ := a
    obtain ⟨f, hf⟩ := Go.Deep.choose_lt (α := Cmd) (p := fun i c => W.cells? base ((⟨b, off, spot⟩ : Addr).add (i * 7)) 7 = some c.cells) (n := m) fun i hi => by
      obtain ⟨cs', h1, h2⟩ := hel i hi
      rw [cellsCmd] at h1
      obtain ⟨c, hc⟩ := cmd_cells h2
      exact ⟨c, by rw [← hc]; exact h1⟩
    have hcell : ∀ i, i < len → ∀ j, j < 7 → W.cell? (((⟨b, off, spot⟩ : Addr).add (i * 7)).add j) = (f i).cells[j]? := fun i hi j hj => (World.cells?_some (hf i (by omega))).2.2 j hj
    refine ⟨(List.range len).map f, by simp, fun hne => ?_, .inr ⟨_, _, hx.1, by simp⟩⟩
    have hpos : 0 < len := by
      rcases Nat.eq_zero_or_pos len with h0 | h0
      · subst h0; exact absurd rfl hne
      · exact h0
    have h00 := hcell 0 hpos 0 (by omega)
    have hsome : (f 0).cells[0]? = some (.int .i64 (f 0).kind) := rfl
    rw [hsome] at h00
    have hspot : spot = none := by simpa [Addr.add] using World.cell?_spot h00
    subst hspot
    have hb : b < W.heap.size := by
      rcases Nat.lt_or_ge b W.heap.size with h1 | h1
      · exact h1
      · have : W.heap[b]? = none := Array.getElem?_eq_none h1
        simp [Addr.add, World.cell?, this] at h00
    refine .inr ⟨b, off, cap, by simp, hb, fun i c hi => ?_⟩
    have hil : i < len := by have := (List.getElem?_eq_some_iff.1 hi).1; simpa using this
    have hc : c = (f i).cells := by
      rw [List.getElem?_map, List.getElem?_map, List.getElem?_range hil] at hi
      simpa using hi.symm
    subst hc
    refine ⟨rfl, fun j v hj => ?_⟩
    have hjl : j < 7 := (List.getElem?_eq_some_iff.1 hj).1
    have := hcell i hil j hjl
    rw [hj] at this
    rw [Addr.add_lit, Addr.add_lit] at this
    exact this
end Go.Proofs.Ytcbbnmodjnnbeaa
