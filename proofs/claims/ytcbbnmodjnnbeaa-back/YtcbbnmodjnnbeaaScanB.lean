/- The program's Scan. -/
import Derived.Test.YtcbbnmodjnnbeaaCodes
import Derived.Test.YtcbbnmodjnnbeaaPack2
import Derived.Test.YtcbbnmodjnnbeaaPure2
set_option linter.unusedSimpArgs false
set_option linter.unusedVariables false
namespace Go.Proofs.Ytcbbnmodjnnbeaa
open Go.RowKit
attribute [local go_sem] World.ext_ext

/-- One record more of a journal, and what is behind it. -/
def scanStep (l : List UInt8) : Option (Rec × List UInt8) := if (decR (blockL l false).1).2 = 0 then some ((decR (blockL l false).1).1, (blockL l false).2.1) else none
def ScanTo : List UInt8 → List Rec → List UInt8 → Prop
  | l, [], l' => l = l'
  | l, r :: rs, l' => ∃ m, scanStep l = some (r, m) ∧ ScanTo m rs l'
theorem ScanTo.snoc : ∀ (l : List UInt8) (rs : List Rec) (l' : List UInt8) (r : Rec) (m : List UInt8), ScanTo l rs l' → scanStep l' = some (r, m) → ScanTo l (rs ++ [r]) m
  | l, [], l', r, m, h, hs => by
    have h' : l = l' := h
    subst h'
    exact ⟨m, hs, rfl⟩
  | l, x :: rs, l', r, m, ⟨k, h1, h2⟩, hs => ⟨k, h1, ScanTo.snoc k rs l' r m h2 hs⟩
theorem ScanTo.same : ∀ (l : List UInt8) (rs rs' : List Rec) (l1 l2 : List UInt8), ScanTo l rs l1 → scanStep l1 = none → ScanTo l rs' l2 → scanStep l2 = none → rs = rs' ∧ l1 = l2
  | l, [], [], l1, l2, h, _, h', _ => ⟨rfl, (show l = l1 from h) ▸ (show l = l2 from h')⟩
  | l, [], r :: rs', l1, l2, h, hn, ⟨m, h1, h2⟩, _ => by
    have e : l = l1 := h
    subst e
    rw [hn] at h1; cases h1
  | l, r :: rs, [], l1, l2, ⟨m, h1, h2⟩, _, h', hn => by
    have e : l = l2 := h'
    subst e
    rw [hn] at h1; cases h1
  | l, r :: rs, r' :: rs', l1, l2, ⟨m, h1, h2⟩, hn, ⟨m', h1', h2'⟩, hn' => by
    rw [h1] at h1'
    injection h1' with e
    injection e with e1 e2
    subst e1 e2
    obtain ⟨a, b⟩ := ScanTo.same m rs rs' l1 l2 h2 hn h2' hn'
    exact ⟨by rw [a], b⟩
theorem decR_nil : (decR []).2 = 10 := by decide
theorem scanStep_some {l : List UInt8} {r : Rec} {m : List UInt8} (h : scanStep l = some (r, m)) : decR (blockL l false).1 = (r, 0) ∧ (blockL l false).2 = (m, false) ∧ m.length + 3 ≤ l.length := by
  unfold scanStep at h
  by_cases he : (decR (blockL l false).1).2 = 0
  · rw [if_pos he] at h
    injection h with h
    injection h with h1 h2
    have hb : (blockL l false).2.2 = false := by
      cases hc : (blockL l false).2.2
      · rfl
      · exfalso
        have hnil : (blockL l false).1 = [] := by
          unfold blockL at hc ⊢
          unfold takeL at hc ⊢
          split
          · rfl
          · rename_i hlen
            rw [if_neg hlen] at hc
            simp only at hc
            have h0 : (numL l false).1 = 0 := by
              unfold numL at hc ⊢
              split at hc
              · rw [if_pos (by assumption)]
              · rename_i hx; exact absurd hc (by simpa using hx)
            rw [h0]; rfl
        rw [hnil, decR_nil] at he
        omega
    obtain ⟨_, s, l', hs, hl, hbk⟩ := blockL_back l false hb
    refine ⟨Prod.ext h1 he, Prod.ext h2 hb, ?_⟩
    rw [hbk] at h2
    simp only at h2
    rw [← h2, hl]
    simp only [List.length_append, be_length]
    omega
  · rw [if_neg he] at h; cases h
theorem ScanTo.len : ∀ (l : List UInt8) (rs : List Rec) (l' : List UInt8), ScanTo l rs l' → l'.length + 3 * rs.length ≤ l.length
  | l, [], l', h => by rw [show l = l' from h]; simp
  | l, r :: rs, l', ⟨m, h1, h2⟩ => by
    have := (scanStep_some h1).2.2
    have := ScanTo.len m rs l' h2
    simp only [List.length_cons]; omega

def Rec.cells (r : Rec) : List Value := #[.int .i64 r.kind, .int .i64 r.gen, .int .i64 r.index, .int .i64 r.term, .int .i64 r.vote, .int .i64 r.many, .int .i64 r.cmd.kind, .string r.cmd.key, .string r.cmd.val, .string r.cmd.old, .int .i64 r.cmd.rev, .int .i64 r.cmd.ses, .int .i64 r.cmd.seq, .string r.data].toList
def OwnR (w : World) (base : Nat) (v : Value) (rs : List Rec) : Prop := w.ownsRow base 25 14 v rs.length (rs.flatMap Rec.cells)
theorem OwnR.nil (w : World) (base : Nat) : OwnR w base (.slice none 0 0) [] := World.ownsRow_nil w base _ 14
theorem OwnR.lt {w : World} {base : Nat} {v : Value} {rs : List Rec} (h : OwnR w base v rs) {k : Nat} (hk : v.ownBlock = some k) : base ≤ k ∧ k < w.heap.size := World.ownsRow.lt h k hk
theorem OwnR.keep {w w' : World} {base : Nat} {v : Value} {rs : List Rec} (h : OwnR w base v rs) (hh : ∀ k, v.ownBlock = some k → w'.heap[k]? = w.heap[k]?) : OwnR w' base v rs := by
  refine ⟨h.1, ?_⟩
  rcases h.2 with h2 | ⟨g, cap, cur, hv, hg, hb, r⟩
  · exact .inl h2
  · exact .inr ⟨g, cap, cur, hv, hg, by rw [hh g (by rw [hv]; rfl)]; exact hb, r⟩
theorem OwnR.alloc {w : World} {base : Nat} {v : Value} {rs : List Rec} (h : OwnR w base v rs) (o : Obj) : OwnR (w.alloc o) base v rs := h.keep fun k hk => Below.heap_alloc _ _ _ (h.lt hk).2
theorem OwnR.ext {w : World} {base : Nat} {v : Value} {rs : List Rec} (h : OwnR w base v rs) (x : Grow) : OwnR (w.ext x) base v rs := h.keep fun k hk => (Below.of_ext w x).block k (h.lt hk).2
theorem OwnR.put {w : World} {base : Nat} {v : Value} {rs : List Rec} (h : OwnR w base v rs) {p : Nat} (hp : p < base) (l : List UInt8) (b : Bool) : OwnR (w.putRd p l b) base v rs := h.keep fun k hk => by rw [putRd_heap, if_neg (by have := (h.lt hk).1; omega)]
theorem infoR : (Try.prog.info? 25).map (fun i => (i.zero, i.size, i.bytes)) = some (some (.agg #[.int .i64 0, .int .i64 0, .int .i64 0, .int .i64 0, .int .i64 0, .int .i64 0, .int .i64 0, .string ⟨#[]⟩, .string ⟨#[]⟩, .string ⟨#[]⟩, .int .i64 0, .int .i64 0, .int .i64 0, .string ⟨#[]⟩]), 14, 144) := by kernel_rfl
theorem cells_one (r : Rec) : ∀ u ∈ r.cells, u.oneCell' = true := by
  intro u hu
  simp only [Rec.cells, List.mem_cons, List.not_mem_nil, or_false] at hu
  rcases hu with rfl | rfl | rfl | rfl | rfl | rfl | rfl | rfl | rfl | rfl | rfl | rfl | rfl | rfl <;> rfl
/-- One record more behind a list that the call owns. -/
theorem wpR_new {w : World} {ops : Array Oper} {rest : List Oper} {o : Oper} {a : Act} {Q : Exit → Act → World → Prop} (hgd : o.guard = none) (sl xo : Operand)
    (ho : o.op = .call { callee := .builtin .append, args := #[sl, xo], argTypes := #[33, 33] }) (base : Nat) (v : Value) (rs : List Rec) (hv : a.eval sl = v) (hown : OwnR w base v rs)
    (r : Rec) (b : Nat) (hx : a.eval xo = .slice (some ⟨b, 0, none⟩) 1 1) (hc : w.heap[b]? = some (.cells #[.int .i64 r.kind, .int .i64 r.gen, .int .i64 r.index, .int .i64 r.term, .int .i64 r.vote, .int .i64 r.many, .int .i64 r.cmd.kind, .string r.cmd.key, .string r.cmd.val, .string r.cmd.old, .int .i64 r.cmd.rev, .int .i64 r.cmd.ses, .int .i64 r.cmd.seq, .string r.data] 25)) (hlen : rs.length ≤ 100000000000) (hbase : base ≤ w.heap.size)
    (h : ∀ v' w', OwnR w' base v' (rs ++ [r]) → Grew w w' v v' → wpList Try.prog ops Q rest (a.put o.dst v') w') : wpList Try.prog ops Q (o :: rest) a w := by
  obtain ⟨i, hi, hz, h1, hb⟩ := info_parts infoR
  refine wpList_append_grew (P := Try.prog) hgd sl xo 33 33 ho base 25 i _ Try.underlying33 hi hz (by rw [h1]; rfl) (by omega) v rs.length (rs.flatMap Rec.cells) hv (by rw [h1]; exact hown) _ 1 r.cells hx
    (by rw [h1]; exact Src.ofSlice w Try.underlying33 _ 1 1 _ rfl (fun j u hj => by rw [Addr.add_lit]; simp only [World.cell?, hc, Nat.zero_add]; simpa [Rec.cells] using hj) (cells_one r)) (by unfold maxLen; omega) (by rw [hb]; omega) hbase fun v' w' h2 h3 => h v' w' ?_ h3
  unfold OwnR
  rw [List.length_append, List.flatMap_append, ← h1]
  simpa using h2
end Go.Proofs.Ytcbbnmodjnnbeaa
/- A text of a record with one byte turned, one more or one less is a text of no record (plain). -/
set_option linter.unusedSimpArgs false
set_option linter.unusedVariables false
namespace Go.Proofs.Ytcbbnmodjnnbeaa
open Go.RowKit

theorem rec_app (r : Rec) (m : List UInt8) (h : r.may = true) : recLd (bodyL r ++ m) false = (r, m, false) := by
  rcases rec_kind r h with hk | hk | hk
  · obtain ⟨a1, a2, a3, a4, a5, a6, a7, a8, a9, a10, a11⟩ := rec_bd1 r h hk
    obtain ⟨kind, gen, index, term, vote, many, cmd, data⟩ := r
    simp only at *
    subst hk a10 a11
    obtain ⟨ng, rfl⟩ := Int.eq_ofNat_of_zero_le (show 0 ≤ gen by omega)
    obtain ⟨ni, rfl⟩ := Int.eq_ofNat_of_zero_le a3
    obtain ⟨nt, rfl⟩ := Int.eq_ofNat_of_zero_le a5
    obtain ⟨nm, rfl⟩ := Int.eq_ofNat_of_zero_le a7
    simp only [bodyL, if_true, Int.toNat_natCast, List.append_assoc]
    unfold recLd
    rw [byteL_fwd 1 _ (by omega)]; simp only [if_true]
    unfold recLd1; simp only
    rw [numL_fwd ng _ (by omega)]; simp only
    rw [numL_fwd ni _ (by omega)]; simp only
    rw [numL_fwd nt _ (by omega)]; simp only
    rw [numL_fwd nm _ (by omega)]; simp only
    rw [← len_data data]
    rw [blockL_fwd data.data.toList m (by rw [len_data]; omega)]
    simp only [B_eta]
    rfl
  · obtain ⟨a1, a2, a3, a4⟩ := rec_bd2 r h hk
    have hz : r = ⟨2, 0, 0, r.term, r.vote, 0, Cmd.zero, ByteArray.empty⟩ := by
      simp [Rec.may, hk, Cmd.same_iff, noB] at h
      obtain ⟨kind, gen, index, term, vote, many, cmd, data⟩ := r
      simp only at *
      simp [h, hk]
    rw [hz]
    generalize r.term = term at *
    generalize r.vote = vote at *
    clear hz hk h
    obtain ⟨nt, rfl⟩ := Int.eq_ofNat_of_zero_le a1
    obtain ⟨nv, hv⟩ := Int.eq_ofNat_of_zero_le (show 0 ≤ vote + 1 by omega)
    have hv' : vote = (nv : Int) - 1 := by omega
    subst hv'
    simp only [bodyL, Int.toNat_natCast, hv, List.append_assoc]
    rw [if_neg (by omega), if_pos trivial]
    simp only [List.append_assoc]
    unfold recLd
    rw [byteL_fwd 2 _ (by omega)]; simp only
    rw [if_neg (by omega), if_pos trivial]
    unfold recLd2; simp only
    rw [numL_fwd nt _ (by omega)]; simp only
    rw [byteL_fwd nv m (by omega)]
    rfl
  · obtain ⟨a1, a2, a3, a4, a5⟩ := rec_bd3 r h hk
    have hc := cmd_bd r.cmd a5
    have hz : r = ⟨3, 0, r.index, r.term, 0, 0, r.cmd, ByteArray.empty⟩ := by
      simp [Rec.may, hk, noB] at h
      obtain ⟨kind, gen, index, term, vote, many, cmd, data⟩ := r
      simp only at *
      simp [h, hk]
    rw [hz]
    generalize r.term = term at *
    generalize r.index = index at *
    generalize r.cmd = cmd at *
    clear hz hk h
    obtain ⟨nt, rfl⟩ := Int.eq_ofNat_of_zero_le a3
    obtain ⟨ni, rfl⟩ := Int.eq_ofNat_of_zero_le (show 0 ≤ index by omega)
    simp only [bodyL, Int.toNat_natCast, List.append_assoc]
    rw [if_neg (by omega), if_neg (by omega)]
    simp only [List.append_assoc]
    unfold recLd
    rw [byteL_fwd 3 _ (by omega)]; simp only
    rw [if_neg (by omega), if_neg (by omega), if_pos trivial]
    unfold recLd3; simp only
    rw [numL_fwd ni _ (by omega)]; simp only
    rw [numL_fwd nt _ (by omega)]; simp only
    rw [cmd_fwd cmd m hc]
    rfl

theorem body_free (r r' : Rec) (m : List UInt8) (h : r.may = true) (h' : r'.may = true) (e : bodyL r' = bodyL r ++ m) : m = [] := by
  have h1 := rec_app r m h
  rw [← e] at h1
  rw [rec_fwd r' h'] at h1
  injection h1 with _ h2
  injection h2 with h3 _
  exact h3.symm
theorem enc_longer (r r' : Rec) (x : UInt8) (h : r.may = true) (h' : r'.may = true) : encL r' ≠ encL r ++ [x] := by
  intro e
  unfold encL at e
  rw [List.append_assoc] at e
  have hl := congrArg List.length e
  simp only [List.length_append, be_length, List.length_cons, List.length_nil] at hl
  obtain ⟨m, h1, h2⟩ : ∃ m, bodyL r' = bodyL r ++ m ∧ m.length = 1 := by
    rcases List.append_eq_append_iff.mp e with ⟨a, h1, h2⟩ | ⟨a, h1, h2⟩
    · have := congrArg List.length h1
      simp only [List.length_append] at this
      omega
    · exact ⟨a, h1, by have := congrArg List.length h1; simp only [List.length_append] at this; omega⟩
  rw [body_free r r' m h h' h1] at h2
  cases h2
theorem sumPair_fst (l : List UInt8) : ∀ p : Nat × Nat, (l.foldl By.sumStep p).1 % 65521 = (p.1 + (l.map UInt8.toNat).sum) % 65521 := by
  induction l with
  | nil => intro p; simp
  | cons c l ih =>
    intro p
    rw [List.foldl_cons, ih]
    simp only [List.map_cons, List.sum_cons, By.sumStep]
    omega
theorem sum_fst (l : List UInt8) : By.sum l % 65536 % 65521 = (1 + (l.map UInt8.toNat).sum) % 65521 := by
  have h := sumPair_fst l (1, 0)
  have hl := By.foldl_lt l (1, 0) (by omega) (by omega)
  unfold By.sum By.sumPair
  omega
theorem be4_inj (m n : Nat) (hm : m < 4294967296) (hn : n < 4294967296) (e : be 4 m = be 4 n) : m = n := by
  simp only [be, List.nil_append, List.append_nil, List.cons_append, List.cons.injEq, and_true] at e
  obtain ⟨h1, h2, h3, h4⟩ := e
  have g1 := congrArg UInt8.toNat h1
  have g2 := congrArg UInt8.toNat h2
  have g3 := congrArg UInt8.toNat h3
  have g4 := congrArg UInt8.toNat h4
  simp only [UInt8.toNat_ofNat'] at g1 g2 g3 g4
  omega
theorem sum_turned (P Q : List UInt8) (c d : UInt8) (e : By.sum (P ++ c :: Q) = By.sum (P ++ d :: Q)) : c = d := by
  have h1 := sum_fst (P ++ c :: Q)
  have h2 := sum_fst (P ++ d :: Q)
  rw [e, h2] at h1
  simp only [List.map_append, List.map_cons, List.sum_append, List.sum_cons] at h1
  have hc := UInt8.toNat_lt c
  have hd := UInt8.toNat_lt d
  exact UInt8.toNat_inj.mp (by omega)
theorem enc_turned (r r' : Rec) (P Q : List UInt8) (c d : UInt8) (e : encL r = P ++ c :: Q) (e' : encL r' = P ++ d :: Q) : c = d := by
  unfold encL at e e'
  have hl : (bodyL r).length = (bodyL r').length := by
    have h1 := congrArg List.length e
    have h2 := congrArg List.length e'
    simp only [List.length_append, be_length, List.length_cons] at h1 h2
    omega
  by_cases hp : P.length < (bodyL r).length
  · have hb := congrArg (List.take (bodyL r).length) e
    have hs := congrArg (List.drop (bodyL r).length) e
    have hb' := congrArg (List.take (bodyL r').length) e'
    have hs' := congrArg (List.drop (bodyL r').length) e'
    obtain ⟨k, hk⟩ : ∃ k, (bodyL r).length = P.length + (k + 1) := ⟨(bodyL r).length - P.length - 1, by omega⟩
    rw [List.take_left, hk, List.take_length_add_append, List.take_succ_cons] at hb
    rw [List.take_left, ← hl, hk, List.take_length_add_append, List.take_succ_cons] at hb'
    rw [List.drop_left, hk, List.drop_length_add_append, List.drop_succ_cons] at hs
    rw [List.drop_left, ← hl, hk, List.drop_length_add_append, List.drop_succ_cons, ← hs] at hs'
    have := be4_inj _ _ (By.sum_lt _) (By.sum_lt _) hs'
    rw [hb, hb'] at this
    exact (sum_turned _ _ _ _ this).symm
  · have hb := congrArg (List.take (bodyL r).length) e
    have hb' := congrArg (List.take (bodyL r').length) e'
    rw [List.take_left, List.take_append_of_le_length (by omega)] at hb
    rw [List.take_left, ← hl, List.take_append_of_le_length (by omega)] at hb'
    have heq : bodyL r' = bodyL r := hb'.trans hb.symm
    rw [heq, e] at e'
    have := List.append_cancel_left e'
    injection this
theorem decR_bad (L : List UInt8) (h : ∀ r, Rec.may r = true → encL r ≠ L) : decR L = (Rec.zero, 10) := by
  unfold decR; rw [if_neg (fun hh => h _ hh.1 hh.2)]
theorem decR_longer (r : Rec) (x : UInt8) (h : r.may = true) : decR (encL r ++ [x]) = (Rec.zero, 10) := decR_bad _ fun r' h' => enc_longer r r' x h h'
theorem decR_shorter (r : Rec) (h : r.may = true) (L : List UInt8) (x : UInt8) (hL : encL r = L ++ [x]) : decR L = (Rec.zero, 10) := decR_bad _ fun r' h' e => enc_longer r' r x h' h (by rw [e]; exact hL)
theorem decR_turned (r : Rec) (P Q : List UInt8) (c d : UInt8) (e : encL r = P ++ c :: Q) (hd : c ≠ d) : decR (P ++ d :: Q) = (Rec.zero, 10) := decR_bad _ fun r' _ e' => hd (enc_turned r r' P Q c d e e')
end Go.Proofs.Ytcbbnmodjnnbeaa
/- A journal of two records and one that breaks off (plain). -/
set_option linter.unusedSimpArgs false
set_option linter.unusedVariables false
namespace Go.Proofs.Ytcbbnmodjnnbeaa
open Go.RowKit

theorem encL_lt (r : Rec) (h : r.may = true) : (encL r).length < 16777216 := by
  have := bodyL_len r h
  unfold encL
  rw [List.length_append, be_length]
  omega
/-- A record's block in a journal. -/
def oneL (r : Rec) : List UInt8 := be 3 (encL r).length ++ encL r
theorem scan_one (r : Rec) (m : List UInt8) (h : r.may = true) : scanStep (oneL r ++ m) = some (r, m) := by
  unfold scanStep oneL
  rw [List.append_assoc, blockL_fwd _ _ (encL_lt r h)]
  simp only
  rw [decR_enc r h, if_pos rfl]
theorem scan_short (l : List UInt8) (h : (blockL l false).1 = []) : scanStep l = none := by
  unfold scanStep
  rw [h, decR_nil, if_neg (by omega)]
theorem takeL_nil (l : List UInt8) (b : Bool) (n : Nat) (h : l.length < n) : takeL l b n = ([], [], true) := by
  unfold takeL; rw [if_pos h]
theorem takeL_empty (b : Bool) (n : Nat) : (takeL [] b n).1 = [] := by
  unfold takeL; split <;> simp
theorem scan_cut (r : Rec) (h : r.may = true) (L : List UInt8) (x : UInt8) (e : oneL r = L ++ [x]) : scanStep L = none := by
  apply scan_short
  have hl := congrArg List.length e
  simp only [oneL, List.length_append, be_length, List.length_cons, List.length_nil] at hl
  have h4 : 4 ≤ (encL r).length := by unfold encL; rw [List.length_append, be_length]; omega
  obtain ⟨S, hS⟩ : ∃ S, L = be 3 (encL r).length ++ S := by
    unfold oneL at e
    rcases List.append_eq_append_iff.mp e with ⟨a, h1, h2⟩ | ⟨a, h1, h2⟩
    · exact ⟨a, h1⟩
    · have := congrArg List.length h1
      simp only [List.length_append, be_length] at this
      have ha : a = [] := List.eq_nil_of_length_eq_zero (by omega)
      subst ha
      exact ⟨[], by rw [h1]; simp⟩
  have hS2 : S.length < (encL r).length := by rw [hS] at hl; simp only [List.length_append, be_length] at hl; omega
  unfold blockL
  rw [hS, numL_fwd _ _ (encL_lt r h)]
  simp only
  rw [takeL_nil _ _ _ hS2]
theorem scan_back (r : Rec) (h : r.may = true) (L : List UInt8) (x : UInt8) (e : oneL r = L ++ [x]) : ScanTo (oneL r ++ (oneL r ++ L)) [r, r] L ∧ scanStep L = none :=
  ⟨⟨_, scan_one r _ h, _, scan_one r _ h, rfl⟩, scan_cut r h L x e⟩
end Go.Proofs.Ytcbbnmodjnnbeaa
