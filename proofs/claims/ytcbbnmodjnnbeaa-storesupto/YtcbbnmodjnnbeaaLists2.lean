/- strings.Clone, by the library's contract. -/
import Derived.Test.YtcbbnmodjnnbeaaExt
import Derived.Test.YtcbbnmodjnnbeaaProg
import Derived.Shelf.Strconv.Clone
import Derived.Test.YtcbbnmodjnnbeaaLists
import Derived.Deep.RegionHeldLaw
set_option linter.unusedSimpArgs false
set_option linter.unusedVariables false
namespace Go.Proofs.Ytcbbnmodjnnbeaa
open Go.RowKit

def Try.renClone : Go.Shelf.Ren := ⟨fun | 316 => 108 | n => n, fun | 0 => 0 | 3 => 3 | 4 => 4 | 5 => 5 | 9 => 9 | 37 => 47 | 127 => 236 | n => n, fun n => n⟩
theorem Try.layClone : LaysM.n316 Try.prog Try.renClone := by
  constructor
  · constructor
    all_goals first | kernel_rfl | (intro w; kernel_rfl)
  all_goals first | kernel_rfl | (intro w; kernel_rfl)
set_option maxHeartbeats 400000 in
theorem stringsClone (s : ByteArray) (w : World) (h : s.size ≤ 281474976710656) :
    Calls Try.prog 54 #[.string s] w fun e w' => e = .returned (.string s) ∧ Below w.heap.size w w' := by
  go_enter Try.func54, Try.ntmps54
  go_wp2_with (go_at_call 108; refine (Any.stringslite_Clone Try.layClone s _ h).mono ?_; rintro e w1 ⟨rfl, hb1⟩)
  go_ret
  exact ⟨rfl, hb1⟩
end Go.Proofs.Ytcbbnmodjnnbeaa
/- append to what is owned, as one step of a region that draws its order. -/
set_option linter.unusedSimpArgs false
set_option linter.unusedVariables false
namespace Go
open Go.RowKit
theorem step_appendL {P : Program} {ops : Array Oper} {o : Oper} {a : Act} {w : World} {K : Act → World → Prop} {Q : Exit → Act → World → Prop} {E : Prop} (hgd : o.guard = none) (sl xo : Operand) (t : TypeId)
    (ho : o.op = .call { callee := .builtin .append, args := #[sl, xo], argTypes := #[t, t] }) (e : TypeId) (sz by_ : Nat) (z : Value) (ht : P.underlying t = some (.slice e)) (hinfo : (P.info? e).map (fun i => (i.zero, i.size, i.bytes)) = some (some z, sz, by_)) (hz : z.cells.size = sz) (hsz : 0 < sz)
    (v : Value) (cs : List (List Value)) (n : Nat) (hn : cs.length = n) (hv : a.eval sl = v) (hown : w.ownL e sz v cs)
    (c : Array Value) (b : Nat) (hx : a.eval xo = .slice (some ⟨b, 0, none⟩) 1 1) (hc : w.heap[b]? = some (.cells c e)) (hcl : c.size = sz) (h1 : ∀ u ∈ c.toList, u.oneCell' = true) (hlen : n + 1 ≤ maxLen) (hby : (n + 1) * by_ ≤ 140737488355328)
    (h : ∀ a' cap' w', w'.ownL e sz (.slice a' (n + 1) cap') (cs ++ [c.toList]) → Grew w w' v (.slice a' (n + 1) cap') → ((Value.slice a' (n + 1) cap').ownBlock = v.ownBlock ∨ Below w.heap.size w w') → K (a.put o.dst (.slice a' (n + 1) cap')) w') :
    if Region.wanted o (yielded ops a.tmps) = true then Oper.wp P o a w K Q else E := by
  subst hn
  have hw : Region.wanted o (yielded ops a.tmps) = true := by simp [Region.wanted, hgd]
  rw [if_pos hw]
  obtain ⟨i, hi, hz', h1', hb⟩ := info_parts hinfo
  obtain ⟨v', w', hr, h2, h3, h4⟩ := run_append_grew2 (P := P) w 0 t t o.type e i z ht hi hz' (by rw [h1']; exact hz) (by omega) v cs.length cs.flatten (by rw [h1']; exact hown.1) (.slice (some ⟨b, 0, none⟩) 1 1) 1 c.toList
    (by rw [h1']; exact Src.ofSlice w ht _ 1 1 _ (by simp [hcl]) (fun j u hj => by rw [Addr.add_lit]; simp only [World.cell?, hc, Nat.zero_add]; simpa using hj) h1) hlen (by rw [hb]; exact hby) (Nat.zero_le _)
  have hl : w'.ownL e sz v' (cs ++ [c.toList]) := by
    refine ⟨?_, fun x hx => ?_⟩
    · rw [← h1', List.length_append, List.flatten_append]; simpa using h2
    · rcases List.mem_append.1 hx with hx | hx
      · exact hown.2 x hx
      · rw [List.mem_singleton.1 hx]; simpa using hcl
  obtain ⟨a', cap', hv'⟩ := hl.len
  rw [List.length_append, List.length_singleton] at hv'
  subst hv'
  unfold Oper.wp execOp
  simp only [ho, resolve, invoke, builtin, Sem.run_bind, Sem.run_pure, Result.andThen_ok, List.map_toArray, List.map_cons, List.map_nil, hv, hx, hr]
  exact h _ _ _ hl h3 h4
end Go
