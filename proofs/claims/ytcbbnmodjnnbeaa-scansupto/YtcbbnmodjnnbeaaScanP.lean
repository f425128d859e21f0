/- The program's Scan. -/
import Derived.Test.YtcbbnmodjnnbeaaCodes
import Derived.Test.YtcbbnmodjnnbeaaPack2
set_option linter.unusedSimpArgs false
set_option linter.unusedVariables false
namespace Go.Proofs.Ytcbbnmodjnnbeaa
open Go.RowKit
attribute [local go_sem] World.ext_ext

/-- One record more of a journal, and what is behind it. -/
def scanStep (l : List UInt8) : Option (Rec × List UInt8) := if (decR (blockL l false).1).2 = 0 then some ((decR (blockL l false).1).1, (blockL l false).2.1) else none
def ScanTo : List UInt8 → List Rec → List UInt8 → Prop
  | l, [], l' => l = l'
  | l, r :: rs, l' => ∃ m, scanStep l = some (r, m) ∧ ScanTo m rs l'
theorem ScanTo.snoc : ∀ (l : List UInt8) (rs : List Rec) (l' : List UInt8) (r : Rec) (m : List UInt8), ScanTo l rs l' → scanStep l' = some (r, m) → ScanTo l (rs ++ [r]) m
  | l, [], l', r, m, h, hs => by
    have h' : l = l' := h
    subst h'
    exact ⟨m, hs, rfl⟩
  | l, x :: rs, l', r, m, ⟨k, h1, h2⟩, hs => ⟨k, h1, ScanTo.snoc k rs l' r m h2 hs⟩
theorem ScanTo.same : ∀ (l : List UInt8) (rs rs' : List Rec) (l1 l2 : List UInt8), ScanTo l rs l1 → scanStep l1 = none → ScanTo l rs' l2 → scanStep l2 = none → rs = rs' ∧ l1 = l2
  | l, [], [], l1, l2, h, _, h', _ => ⟨rfl, (show l = l1 from h) ▸ (show l = l2 from h')⟩
  | l, [], r :: rs', l1, l2, h, hn, ⟨m, h1, h2⟩, _ => by
    have e : l = l1 := h
    subst e
    rw [hn] at h1; cases h1
  | l, r :: rs, [], l1, l2, ⟨m, h1, h2⟩, _, h', hn => by
    have e : l = l2 := h'
    subst e
    rw [hn] at h1; cases h1
  | l, r :: rs, r' :: rs', l1, l2, ⟨m, h1, h2⟩, hn, ⟨m', h1', h2'⟩, hn' => by
    rw [h1] at h1'
    injection h1' with e
    injection e with e1 e2
    subst e1 e2
    obtain ⟨a, b⟩ := ScanTo.same m rs rs' l1 l2 h2 hn h2' hn'
    exact ⟨by rw [a], b⟩
theorem decR_nil : (decR []).2 = 10 := by decide
theorem scanStep_some {l : List UInt8} {r : Rec} {m : List UInt8} (h : scanStep l = some (r, m)) : decR (blockL l false).1 = (r, 0) ∧ (blockL l false).2 = (m, false) ∧ m.length + 3 ≤ l.length := by
  unfold scanStep at h
  by_cases he : (decR (blockL l false).1).2 = 0
  · rw [if_pos he] at h
    injection h with h
    injection h with h1 h2
    have hb : (blockL l false).2.2 = false := by
      cases hc : (blockL l false).2.2
      · rfl
      · exfalso
        have hnil : (blockL l false).1 = [] := by
          unfold blockL at hc ⊢
          unfold takeL at hc ⊢
          split
          · rfl
          · rename_i hlen
            rw [if_neg hlen] at hc
            simp only at hc
            have h0 : (numL l false).1 = 0 := by
              unfold numL at hc ⊢
              split at hc
              · rw [if_pos (by assumption)]
              · rename_i hx; exact absurd hc (by simpa using hx)
            rw [h0]; rfl
        rw [hnil, decR_nil] at he
        omega
    obtain ⟨_, s, l', hs, hl, hbk⟩ := blockL_back l false hb
    refine ⟨Prod.ext h1 he, Prod.ext h2 hb, ?_⟩
    rw [hbk] at h2
    simp only at h2
    rw [← h2, hl]
    simp only [List.length_append, be_length]
    omega
  · rw [if_neg he] at h; cases h
theorem ScanTo.len : ∀ (l : List UInt8) (rs : List Rec) (l' : List UInt8), ScanTo l rs l' → l'.length + 3 * rs.length ≤ l.length
  | l, [], l', h => by rw [show l = l' from h]; simp
  | l, r :: rs, l', ⟨m, h1, h2⟩ => by
    have := (scanStep_some h1).2.2
    have := ScanTo.len m rs l' h2
    simp only [List.length_cons]; omega

def Rec.cells (r : Rec) : List Value := #[.int .i64 r.kind, .int .i64 r.gen, .int .i64 r.index, .int .i64 r.term, .int .i64 r.vote, .int .i64 r.many, .int .i64 r.cmd.kind, .string r.cmd.key, .string r.cmd.val, .string r.cmd.old, .int .i64 r.cmd.rev, .int .i64 r.cmd.ses, .int .i64 r.cmd.seq, .string r.data].toList
def OwnR (w : World) (base : Nat) (v : Value) (rs : List Rec) : Prop := w.ownsRow base 25 14 v rs.length (rs.flatMap Rec.cells)
theorem OwnR.nil (w : World) (base : Nat) : OwnR w base (.slice none 0 0) [] := World.ownsRow_nil w base _ 14
theorem OwnR.lt {w : World} {base : Nat} {v : Value} {rs : List Rec} (h : OwnR w base v rs) {k : Nat} (hk : v.ownBlock = some k) : base ≤ k ∧ k < w.heap.size := World.ownsRow.lt h k hk
theorem OwnR.keep {w w' : World} {base : Nat} {v : Value} {rs : List Rec} (h : OwnR w base v rs) (hh : ∀ k, v.ownBlock = some k → w'.heap[k]? = w.heap[k]?) : OwnR w' base v rs := by
  refine ⟨h.1, ?_⟩
  rcases h.2 with h2 | ⟨g, cap, cur, hv, hg, hb, r⟩
  · exact .inl h2
  · exact .inr ⟨g, cap, cur, hv, hg, by rw [hh g (by rw [hv]; rfl)]; exact hb, r⟩
theorem OwnR.alloc {w : World} {base : Nat} {v : Value} {rs : List Rec} (h : OwnR w base v rs) (o : Obj) : OwnR (w.alloc o) base v rs := h.keep fun k hk => Below.heap_alloc _ _ _ (h.lt hk).2
theorem OwnR.ext {w : World} {base : Nat} {v : Value} {rs : List Rec} (h : OwnR w base v rs) (x : Grow) : OwnR (w.ext x) base v rs := h.keep fun k hk => (Below.of_ext w x).block k (h.lt hk).2
theorem OwnR.put {w : World} {base : Nat} {v : Value} {rs : List Rec} (h : OwnR w base v rs) {p : Nat} (hp : p < base) (l : List UInt8) (b : Bool) : OwnR (w.putRd p l b) base v rs := h.keep fun k hk => by rw [putRd_heap, if_neg (by have := (h.lt hk).1; omega)]
theorem infoR : (Try.prog.info? 25).map (fun i => (i.zero, i.size, i.bytes)) = some (some (.agg #[.int .i64 0, .int .i64 0, .int .i64 0, .int .i64 0, .int .i64 0, .int .i64 0, .int .i64 0, .string ⟨#[]⟩, .string ⟨#[]⟩, .string ⟨#[]⟩, .int .i64 0, .int .i64 0, .int .i64 0, .string ⟨#[]⟩]), 14, 144) := by kernel_rfl
theorem cells_one (r : Rec) : ∀ u ∈ r.cells, u.oneCell' = true := by
  intro u hu
  simp only [Rec.cells, List.mem_cons, List.not_mem_nil, or_false] at hu
  rcases hu with rfl | rfl | rfl | rfl | rfl | rfl | rfl | rfl | rfl | rfl | rfl | rfl | rfl | rfl <;> rfl
/-- One record more behind a list that the call owns. -/
theorem wpR_new {w : World} {ops : Array Oper} {rest : List Oper} {o : Oper} {a : Act} {Q : Exit → Act → World → Prop} (hgd : o.guard = none) (sl xo : Operand)
    (ho : o.op = .call { callee := .builtin .append, args := #[sl, xo], argTypes := #[33, 33] }) (base : Nat) (v : Value) (rs : List Rec) (hv : a.eval sl = v) (hown : OwnR w base v rs)
    (r : Rec) (b : Nat) (hx : a.eval xo = .slice (some ⟨b, 0, none⟩) 1 1) (hc : w.heap[b]? = some (.cells #[.int .i64 r.kind, .int .i64 r.gen, .int .i64 r.index, .int .i64 r.term, .int .i64 r.vote, .int .i64 r.many, .int .i64 r.cmd.kind, .string r.cmd.key, .string r.cmd.val, .string r.cmd.old, .int .i64 r.cmd.rev, .int .i64 r.cmd.ses, .int .i64 r.cmd.seq, .string r.data] 25)) (hlen : rs.length ≤ 100000000000) (hbase : base ≤ w.heap.size)
    (h : ∀ v' w', OwnR w' base v' (rs ++ [r]) → Grew w w' v v' → wpList Try.prog ops Q rest (a.put o.dst v') w') : wpList Try.prog ops Q (o :: rest) a w := by
  obtain ⟨i, hi, hz, h1, hb⟩ := info_parts infoR
  refine wpList_append_grew (P := Try.prog) hgd sl xo 33 33 ho base 25 i _ Try.underlying33 hi hz (by rw [h1]; rfl) (by omega) v rs.length (rs.flatMap Rec.cells) hv (by rw [h1]; exact hown) _ 1 r.cells hx
    (by rw [h1]; exact Src.ofSlice w Try.underlying33 _ 1 1 _ rfl (fun j u hj => by rw [Addr.add_lit]; simp only [World.cell?, hc, Nat.zero_add]; simpa [Rec.cells] using hj) (cells_one r)) (by unfold maxLen; omega) (by rw [hb]; omega) hbase fun v' w' h2 h3 => h v' w' ?_ h3
  unfold OwnR
  rw [List.length_append, List.flatMap_append, ← h1]
  simpa using h2
end Go.Proofs.Ytcbbnmodjnnbeaa
