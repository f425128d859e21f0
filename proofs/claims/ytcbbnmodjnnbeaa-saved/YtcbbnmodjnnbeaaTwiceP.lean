/- Twice: what a command of a session gives, and gives again. -/
import Derived.Test.YtcbbnmodjnnbeaaPastQ
import Derived.Test.YtcbbnmodjnnbeaaBnd
set_option linter.unusedSimpArgs false
set_option linter.unusedVariables false
namespace Go.Proofs.Ytcbbnmodjnnbeaa
open Go.RowKit

variable {w0 wr W : World} {p b : Nat} {D D' : DataW Value} {s s' : St}
theorem twDo (hS : StoreAt W p b D s) (q : Nat) (hq : ¬ footS p b D q) (c : Cmd) (hc : W.heap[q]? = some (.cells #[.int .i64 c.kind, .string c.key, .string c.val, .string c.old, .int .i64 c.rev, .int .i64 c.ses, .int .i64 c.seq] 23)) (hm : c.may = true) :
    Calls Try.prog 31 #[.pointer (some ⟨p, 0, none⟩), .slice (some ⟨q, 0, none⟩) 1 1] W fun e w' => ∃ (g : Nat) (D' : DataW Value), e = .returned (.tuple #[.slice (some ⟨g, 0, none⟩) 1 1, .int .i64 0]) ∧ g < w'.heap.size ∧ w'.cell? ⟨g, 0, none⟩ = some (.bool (s.result c).1.ok) ∧ w'.cell? ⟨g, 1, none⟩ = some (.int .i64 (s.result c).1.rev) ∧ w'.cell? ⟨g, 2, none⟩ = some (.bool (s.result c).1.stale) ∧ ¬ footS p b D' g ∧
      StoreAt w' p b D' (s.result c).2 ∧ (∀ x, footM b D' x → footM b D x ∨ W.heap.size ≤ x) ∧ W.turned w' (footS p b D) := by
  refine (storeDoYes W p b D s hS _ 1 [c] (reads_one hc) (fun k hk => by cases hk; exact hq) (by simp) (fun x hx => by rw [List.mem_singleton.1 hx]; exact hm)).mono ?_
  rintro e w' ⟨g, D', rfl, ho, _, hgf, hS', hF, ht⟩
  have ho' : w'.ownL 72 3 (.slice (some ⟨g, 0, none⟩) 1 1) [(s.result c).1.cells] := ho
  have hS2 : StoreAt w' p b D' (s.result c).2 := hS'
  rcases ho'.reads with ⟨h2, _⟩ | ⟨g', off, cap, hv, hg', hcell⟩
  · cases h2
  · injection hv with e1 e2 e3
    injection e1 with e1
    injection e1 with e4 e5 _
    subst e4 e5
    obtain ⟨_, h3⟩ := hcell 0 _ rfl
    exact ⟨g, D', rfl, hg', h3 0 _ rfl, h3 1 _ rfl, h3 2 _ rfl, hgf, hS2, hF, ht⟩
theorem ss_at (s : St) (hl : s.ss.length = 8) (i : Nat) (hi : i < 8) (x : Nat × Res) : ssAt (s.setSs i x) i = x ∧ ∀ j, j ≠ i → ssAt (s.setSs i x) j = ssAt s j := by
  refine ⟨?_, fun j hj => ?_⟩
  · unfold ssAt St.setSs
    rw [List.getElem?_set_self (by omega)]; rfl
  · unfold ssAt St.setSs
    rw [List.getElem?_set_ne (fun e => hj e.symm)]
theorem done_ss (s : St) (c : Cmd) (j : Nat) : ssAt (s.done c).2 j = ssAt s j := by
  unfold ssAt
  rw [show (s.done c).2.ss = s.ss from act_ss s c]
/-- A command of a later Seq is done; its session remembers it. -/
theorem res_new (s : St) (hl : s.ss.length = 8) (c : Cmd) (i n : Nat) (hi : i < 8) (h1 : c.ses = (i : Int) + 1) (h2 : c.seq = n) (h3 : (ssAt s i).1 < n) : (s.result c).1.stale = false ∧ ssAt (s.result c).2 i = (n, (s.result c).1) := by
  have e0 : ¬ c.ses = 0 := by omega
  have e1 : (c.ses - 1).toNat = i := by omega
  have e2 : c.seq.toNat = n := by omega
  have h8 : (s.done c).2.ss.length = 8 := by rw [show (s.done c).2.ss = s.ss from act_ss s c]; exact hl
  unfold St.result
  rw [if_neg e0, e1, if_neg (by omega), if_neg (by omega), e2]
  exact ⟨rfl, (ss_at _ h8 i hi _).1⟩
/-- The same command again. -/
theorem res_again (s : St) (c : Cmd) (i n : Nat) (r : Res) (h1 : c.ses = (i : Int) + 1) (h2 : c.seq = n) (h3 : ssAt s i = (n, r)) : s.result c = (r, s) := by
  have e0 : ¬ c.ses = 0 := by omega
  have e1 : (c.ses - 1).toNat = i := by omega
  unfold St.result
  rw [if_neg e0, e1, h3, if_pos h2]
/-- An older one. -/
theorem res_old (s : St) (c : Cmd) (i n m : Nat) (r : Res) (h1 : c.ses = (i : Int) + 1) (h2 : c.seq = m) (h3 : ssAt s i = (n, r)) (h4 : m < n) : s.result c = (⟨false, s.rev, true⟩, s) := by
  have e0 : ¬ c.ses = 0 := by omega
  have e1 : (c.ses - 1).toNat = i := by omega
  unfold St.result
  rw [if_neg e0, e1, h3, if_neg (by show ¬ c.seq = (n : Int); omega), if_pos (by show c.seq < (n : Int); omega)]
/-- Another session's command. -/
theorem res_other (s : St) (hl : s.ss.length = 8) (c : Cmd) (i : Nat) (hb : CmdBd c) (h1 : ¬ c.ses = (i : Int) + 1) : ssAt (s.result c).2 i = ssAt s i := by
  unfold St.result
  split
  · exact done_ss s c i
  · next h0 =>
    split
    · rfl
    · split
      · rfl
      · have hs0 := hb.s0
        have hs8 := hb.s8
        have h8 : (s.done c).2.ss.length = 8 := by rw [show (s.done c).2.ss = s.ss from act_ss s c]; exact hl
        have hne : i ≠ (c.ses - 1).toNat := by omega
        have := (ss_at (s.done c).2 h8 (c.ses - 1).toNat (by omega) (c.seq.toNat, (s.done c).1)).2 i hne
        rw [this]; exact done_ss s c i
def Cmd.with (c : Cmd) (k n : Int) : Cmd := { c with ses := k, seq := n }
theorem with_may {c : Cmd} {k n : Int} (h : c.may = true) (h0 : ¬ c.kind = 0) (hk : 1 ≤ k ∧ k ≤ 8) (hn : 1 ≤ n ∧ n ≤ 1000000) : (c.with k n).may = true := by
  have hs : sesB (c.with k n) = true := by
    rw [ses_parts]
    exact ⟨by show 0 ≤ k; omega, by show k ≤ 8; omega, by show 0 ≤ n; omega, by show n ≤ 1000000; omega, by show (k == 0) = (n == 0); rw [beq_eq_false_iff_ne.2 (by omega), beq_eq_false_iff_ne.2 (by omega)]⟩
  unfold Cmd.may at h ⊢
  show (if c.kind = 0 then _ else if c.kind = 1 then sesB (c.with k n) && keyB c.key && valB c.val && noB c.old && (c.rev == 0) else if c.kind = 2 then sesB (c.with k n) && keyB c.key && noB c.val && noB c.old && (c.rev == 0) else if c.kind = 3 then sesB (c.with k n) && keyB c.key && valB c.val && valB c.old && (c.rev == 0) else if c.kind = 4 then sesB (c.with k n) && noB c.key && noB c.val && noB c.old && numB c.rev else false) = true
  rw [if_neg h0] at h ⊢
  rw [hs]
  by_cases k1 : c.kind = 1
  · rw [if_pos k1] at h ⊢
    simp only [Bool.and_eq_true] at h ⊢
    exact ⟨⟨⟨⟨trivial, h.1.1.1.2⟩, h.1.1.2⟩, h.1.2⟩, h.2⟩
  · rw [if_neg k1] at h ⊢
    by_cases k2 : c.kind = 2
    · rw [if_pos k2] at h ⊢
      simp only [Bool.and_eq_true] at h ⊢
      exact ⟨⟨⟨⟨trivial, h.1.1.1.2⟩, h.1.1.2⟩, h.1.2⟩, h.2⟩
    · rw [if_neg k2] at h ⊢
      by_cases k3 : c.kind = 3
      · rw [if_pos k3] at h ⊢
        simp only [Bool.and_eq_true] at h ⊢
        exact ⟨⟨⟨⟨trivial, h.1.1.1.2⟩, h.1.1.2⟩, h.1.2⟩, h.2⟩
      · rw [if_neg k3] at h ⊢
        by_cases k4 : c.kind = 4
        · rw [if_pos k4] at h ⊢
          simp only [Bool.and_eq_true] at h ⊢
          exact ⟨⟨⟨⟨trivial, h.1.1.1.2⟩, h.1.1.2⟩, h.1.2⟩, h.2⟩
        · rw [if_neg k4] at h; cases h
theorem sum_none : ∀ ks : List ByteArray, (ks.map fun k => (St.empty.vers k).length).sum = 0
  | [] => rfl
  | x :: xs => by rw [List.map_cons, List.sum_cons, sum_none xs]; rfl
theorem Bnd.empty : Bnd St.empty :=
  ⟨⟨by decide, by decide, fun k => List.Pairwise.nil, (fun k v hv => by cases hv), rfl⟩, fun k h => absurd rfl h, (fun k v hv => by cases hv), fun ks _ => by rw [sum_none]; exact Nat.zero_le _, fun x hx => by rw [List.eq_of_mem_replicate hx]; decide, fun x hx => by rw [List.eq_of_mem_replicate hx]; exact ⟨by decide, by decide⟩⟩
theorem Bnd.st4 : Bnd st4 := by
  have := Bnd.all Bnd.empty cmds4 may4
  rw [doAll4] at this
  exact this
end Go.Proofs.Ytcbbnmodjnnbeaa
