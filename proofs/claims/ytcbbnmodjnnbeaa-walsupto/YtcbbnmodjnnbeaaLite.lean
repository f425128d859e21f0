/- copy of a list of structs into what is owned, from its beginning on. -/
import Derived.Test.YtcbbnmodjnnbeaaLists2
import Derived.Laws.CopyOwn
import Derived.Laws.MakeOwn
set_option linter.unusedSimpArgs false
set_option linter.unusedVariables false
namespace Go
open Go.RowKit
theorem run_copy_rowL {P : Program} (w : World) (dT sT ty elem : TypeId) (g o dLen dCap : Nat) (a : Addr) (sLen sCap sz : Nat) (cur : Array Value) (t : TypeId) (cs : List Value)
    (hu : P.underlying dT = some (.slice elem)) (hs : (P.info? elem).map (·.size) = some sz)
    (hg : w.heap[g]? = some (.cells cur t (0, 0))) (hn : cs.length = Nat.min sLen dLen * sz)
    (hsrc : ∀ j v, cs[j]? = some v → w.cell? (a.add j) = some v) (hfit : o + cs.length ≤ cur.size) (h1 : ∀ v ∈ cs, v.oneCell' = true) :
    (Builtin.copy_ #[dT, sT] ty #[.slice (some ⟨g, o, none⟩) dLen dCap, .slice (some a) sLen sCap]).run P w =
      .ok (goInt (Nat.min sLen dLen)) (w.setRow g (cur.toList.take o ++ cs ++ cur.toList.drop (o + cs.length)).toArray) := by
  have hl := run_loadCells_list (P := P) w a cs hsrc
  have hst := run_storeCells_at P g o t cs 0 cur w hg (by simpa using hfit) h1
  cases hq : P.info? elem with
  | none => simp [hq] at hs
  | some i =>
    have hi : i.size = sz := by simpa [hq] using hs
    rw [hn] at hl
    simp [Builtin.copy_, run_underlying hu, Builtin.lenOf, Builtin.firstCells, sizeOf, typeInfo, hq, hi, hl, hst]
theorem run_copy_nilL {P : Program} (w : World) (dT sT ty elem : TypeId) (a : Addr) (dLen dCap c : Nat) (hu : P.underlying dT = some (.slice elem)) (hs : ((P.info? elem).map (·.size)).isSome = true) (v : Value) (hv : v = .slice none 0 c) :
    (Builtin.copy_ #[dT, sT] ty #[.slice (some a) dLen dCap, v]).run P w = .ok (goInt 0) w := by
  subst hv
  cases hq : P.info? elem with
  | none => simp [hq] at hs
  | some i => simp [Builtin.copy_, run_underlying hu, Builtin.lenOf, Builtin.firstCells, sizeOf, typeInfo, hq, storeCells]
theorem take_drop_flat {α : Type} (sz : Nat) (cs : List (List α)) (n : Nat) (h : ∀ c ∈ cs, c.length = sz) : cs.flatten.drop (n * sz) = (cs.drop n).flatten := by
  induction n generalizing cs with
  | zero => simp
  | succ n ih =>
    cases cs with
    | nil => simp
    | cons c cs =>
      have hc := h c (by simp)
      rw [List.flatten_cons, List.drop_succ_cons, show (n + 1) * sz = c.length + n * sz by rw [Nat.succ_mul, hc]; omega, List.drop_length_add_append]
      exact ih cs fun x hx => h x (by simp [hx])
/-- 'copy(out, l)' into what is owned, l no longer than it. -/
theorem wpL_copy {P : Program} {w : World} {ops : Array Oper} {rest : List Oper} {o : Oper} {a : Act} {Q : Exit → Act → World → Prop} (hgd : o.guard = none) (d s : Operand) (dT sT : TypeId)
    (ho : o.op = .call { callee := .builtin .copy, args := #[d, s], argTypes := #[dT, sT] }) (elem : TypeId) (sz : Nat) (hu : P.underlying dT = some (.slice elem)) (hsz : (P.info? elem).map (·.size) = some sz)
    (g N cap : Nat) (sp : Option Addr) (M sCap : Nat) (hd : a.eval d = .slice (some ⟨g, 0, none⟩) N cap) (hs : a.eval s = .slice sp M sCap)
    (t : TypeId) (cs xs : List (List Value)) (hN : cs.length = N) (hM : xs.length = M) (hMN : M ≤ N) (hown : w.ownL t sz (.slice (some ⟨g, 0, none⟩) N cap) cs)
    (hr : xs ≠ [] → w.reads sz (.slice sp M sCap) xs) (h1 : ∀ x ∈ xs, ∀ u ∈ x, u.oneCell' = true)
    (h : ∀ w', w'.ownL t sz (.slice (some ⟨g, 0, none⟩) N cap) (xs ++ cs.drop M) → Grew w w' (.slice (some ⟨g, 0, none⟩) N cap) (.slice (some ⟨g, 0, none⟩) N cap) → wpList P ops Q rest (a.put o.dst (goInt M)) w') : wpList P ops Q (o :: rest) a w := by
  subst hN hM
  refine wpList_plain hgd fun K hK => ?_
  rcases hown.1.2 with ⟨h2, _⟩ | ⟨g', cap', cur, hv, hg0, hb, r1, r2, r3, r4⟩
  · cases h2
  · have hgg : g' = g := by injection hv with hv; injection hv with hv; injection hv with hv; exact hv.symm
    have hcc : cap' = cap := by injection hv with _ _ hv; exact hv.symm
    subst hgg hcc
    have hmin : Nat.min xs.length cs.length = xs.length := Nat.min_eq_left hMN
    cases sp with
    | none =>
      have hx : xs = [] := by
        by_cases e : xs = []
        · exact e
        · rcases hr e with ⟨_, e2⟩ | ⟨_, _, _, e2, _⟩
          · exact e2
          · cases e2
      subst hx
      have hrun := run_copy_nilL (P := P) w dT sT o.type elem ⟨g', 0, none⟩ cs.length cap' sCap hu (by rw [hsz]; rfl) _ rfl
      unfold Oper.wp
      simp only [List.length_nil] at *
      simp [execOp, ho, resolve, invoke, builtin, hd, hs, hrun, Result.andThen]
      exact hK _ _ (h w (by simpa using hown) (Grew.refl _ _))
    | some ad =>
      have hlen : ∀ x ∈ xs, x.length = sz := by
        intro x hx
        rcases hr (fun e => by rw [e] at hx; cases hx) with ⟨e2, _⟩ | ⟨_, _, _, _, _, hc⟩
        · cases e2
        · obtain ⟨i, hi⟩ := List.getElem?_of_mem hx
          exact (hc i x hi).1
      have hfl : xs.flatten.length = xs.length * sz := flatten_len sz xs hlen
      have hsrc : ∀ j v, xs.flatten[j]? = some v → w.cell? (ad.add j) = some v := by
        intro j v hj
        by_cases e : xs = []
        · rw [e] at hj; simp at hj
        · rcases hr e with ⟨e2, _⟩ | ⟨b, off, cc, e2, hbg, hc⟩
          · cases e2
          · injection e2 with e2 _ _
            injection e2 with e2
            subst e2
            have hjl : j < xs.length * sz := by rw [← hfl]; exact (List.getElem?_eq_some_iff.1 hj).1
            have hs0 : 0 < sz := by
              rcases Nat.eq_zero_or_pos sz with h0 | h0
              · rw [h0] at hjl; omega
              · exact h0
            have hq : j / sz < xs.length := (Nat.div_lt_iff_lt_mul hs0).2 hjl
            have hx := List.getElem?_eq_getElem hq
            have hm := Nat.mod_lt j hs0
            have e1 := flatten_at sz xs (j / sz) _ hlen hx (j % sz) hm
            have e2 : j / sz * sz + j % sz = j := by rw [Nat.mul_comm]; exact Nat.div_add_mod j sz
            rw [e2] at e1
            rw [e1] at hj
            have := (hc (j / sz) _ hx).2 (j % sz) v hj
            rw [Addr.add_lit]
            rw [show off + j / sz * sz + j % sz = off + j by omega] at this
            exact this
      have hle : xs.length * sz ≤ cs.length * sz := Nat.mul_le_mul_right _ hMN
      have hle2 : cs.length * sz ≤ cap' * sz := Nat.mul_le_mul_right _ r1
      have hone : ∀ u ∈ xs.flatten, u.oneCell' = true := by
        intro u hu'
        obtain ⟨x, hx, hux⟩ := List.mem_flatten.1 hu'
        exact h1 x hx u hux
      obtain ⟨X, hX⟩ : ∃ X, X = xs.flatten := ⟨_, rfl⟩
      rw [← hX] at hfl hsrc hone
      have hrun := run_copy_rowL (P := P) w dT sT o.type elem g' 0 cs.length cap' ad xs.length sCap sz cur t X hu hsz hb (by rw [hmin, hfl]) hsrc (by rw [hfl, r3]; omega) hone
      unfold Oper.wp
      rw [hmin] at hrun
      simp [execOp, ho, resolve, invoke, builtin, hd, hs, hrun, Result.andThen]
      have hl3 : (xs ++ cs.drop xs.length).length = cs.length := by rw [List.length_append, List.length_drop]; omega
      have hall : ∀ c ∈ xs ++ cs.drop xs.length, c.length = sz := by
        intro c hc
        rcases List.mem_append.1 hc with hc | hc
        · exact hlen c hc
        · exact hown.2 c (List.mem_of_mem_drop hc)
      refine hK _ _ (h _ ⟨⟨?_, .inr ⟨g', cap', _, ?_, hg0, setRow_heap w g' cur _ t _ hb, ?_, r2, ?_, ?_⟩⟩, ?_⟩ ⟨⟨rfl, rfl, rfl, by simp [World.setRow], fun k hk hne => setRow_other w g' k _ (fun e => hne (by simp [Value.ownBlock, e]))⟩, .inl rfl⟩)
      · exact flatten_len sz _ hall
      · rw [hl3]
      · rw [hl3]; exact r1
      · simp only [List.size_toArray, List.length_append, List.length_take, List.length_drop, Array.length_toList, hfl]
        rw [r3]; omega
      · rw [hl3, List.flatten_append, ← hX, ← take_drop_flat sz cs xs.length hown.2, ← r4, List.drop_take, hfl]
        show (X ++ cur.toList.drop (xs.length * sz)).take (cs.length * sz) = _
        rw [List.take_append, hfl, List.take_of_length_le (by rw [hfl]; exact hle)]
      · exact hall
end Go
/- Small laws on lists in memory (without the store's own). -/
set_option linter.unusedSimpArgs false
set_option linter.unusedVariables false
namespace Go.Proofs.Ytcbbnmodjnnbeaa
open Go.RowKit

theorem reads_ltL {w : World} {sz : Nat} {v : Value} {cs : List (List Value)} (h : w.reads sz v cs) {k : Nat} (hk : v.ownBlock = some k) : k < w.heap.size := by
  rcases h with ⟨h1, _⟩ | ⟨g, off, cap', hv, hg, _⟩
  · rw [h1] at hk; cases hk
  · rw [hv] at hk
    have : g = k := by injection hk
    omega
theorem readsGrL {w w' : World} {sz : Nat} {v : Value} {cs : List (List Value)} (h : w.reads sz v cs) (hb : Below w.heap.size w w') : w'.reads sz v cs := h.keep fun k hk => hb.block k (reads_ltL h hk)
theorem made_flattenL (z : Array Value) (n : Nat) (h : 0 < z.size) : (madeCells z (n * z.size)).toList = (List.replicate n z.toList).flatten := by
  have hl : (List.replicate n z.toList).flatten.length = n * z.size := by simp [List.length_flatten]
  apply List.ext_getElem?
  intro j
  by_cases hj : j < n * z.size
  · have hlt := Nat.mod_lt j h
    have hq : j / z.size < n := (Nat.div_lt_iff_lt_mul h).2 hj
    have e1 := flatten_at z.size (List.replicate n z.toList) (j / z.size) z.toList (fun c hc => by rw [(List.mem_replicate.1 hc).2]; simp) (by rw [List.getElem?_replicate, if_pos hq]) (j % z.size) hlt
    have e2 : j / z.size * z.size + j % z.size = j := by rw [Nat.mul_comm]; exact Nat.div_add_mod j z.size
    rw [e2] at e1
    rw [e1]
    simp only [madeCells, Array.toList_map, List.getElem?_map, Array.toList_range]
    rw [List.getElem?_range hj]
    rw [Option.map_some, Array.getElem?_toList, Array.getElem?_eq_getElem hlt, getElem!_pos z (j % z.size) hlt]
  · rw [List.getElem?_eq_none (by rw [Array.length_toList, size_madeCells]; omega), List.getElem?_eq_none (by rw [hl]; omega)]
theorem made_ownL {w : World} {e : TypeId} {z : Array Value} {n : Nat} {v : Value} (h : 0 < z.size) (ho : w.ownsRow 0 e z.size v n (madeCells z (n * z.size)).toList) : w.ownL e z.size v (List.replicate n z.toList) := by
  rw [made_flattenL z n h] at ho
  exact ⟨by rw [List.length_replicate]; exact ho, fun c hc => by rw [(List.mem_replicate.1 hc).2]; simp⟩
theorem set_repL {α : Type} (a : List α) (x y : α) (j n : Nat) (hj : j < n) : (a ++ List.replicate j x ++ List.replicate (n - j) y).set (a.length + j) x = a ++ List.replicate (j + 1) x ++ List.replicate (n - (j + 1)) y := by
  have e : (a ++ List.replicate j x).length = a.length + j := by simp
  rw [List.set_append_right _ _ (by omega), e, Nat.sub_self, show n - j = (n - (j + 1)) + 1 by omega, List.replicate_succ, List.set_cons_zero, List.replicate_succ', List.append_assoc, List.append_assoc, List.append_assoc]
  rfl
end Go.Proofs.Ytcbbnmodjnnbeaa
