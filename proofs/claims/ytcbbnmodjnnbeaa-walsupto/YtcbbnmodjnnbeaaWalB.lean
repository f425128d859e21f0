/- Disks and journals: what a file tells, what records tell; plain. -/
import Derived.Test.YtcbbnmodjnnbeaaScanB
import Derived.Test.YtcbbnmodjnnbeaaRefScan
import Derived.Test.YtcbbnmodjnnbeaaBlk
import Derived.Lib.MinMax
import Derived.BigQuiet
import Derived.Deep.RegionHeld3
set_option linter.unusedSimpArgs false
set_option linter.unusedVariables false
namespace Go.Proofs.Ytcbbnmodjnnbeaa

/-! ### Journals as bytes -/
def jrnL (rs : List Rec) : List UInt8 := rs.flatMap oneL
theorem jrnL_append (a b : List Rec) : jrnL (a ++ b) = jrnL a ++ jrnL b := by simp [jrnL]
theorem jrnL_cons (r : Rec) (b : List Rec) : jrnL (r :: b) = oneL r ++ jrnL b := by simp [jrnL]
theorem jrnL_one (r : Rec) : jrnL [r] = oneL r := by simp [jrnL]
theorem scanTo_jrn : ∀ (rs : List Rec) (m : List UInt8), (∀ r ∈ rs, r.may = true) → ScanTo (jrnL rs ++ m) rs m
  | [], m, _ => rfl
  | r :: rs, m, h => ⟨jrnL rs ++ m, by rw [jrnL_cons, List.append_assoc]; exact scan_one r _ (h r (by simp)), scanTo_jrn rs m fun x hx => h x (by simp [hx])⟩
theorem decR_back {s : List UInt8} {r : Rec} (h : decR s = (r, 0)) : r.may = true ∧ encL r = s := by
  unfold decR at h
  split at h
  · rename_i hc
    injection h with h1 h2
    subst h1
    exact hc
  · injection h with h1 h2
    cases h2
theorem scanStep_back {l : List UInt8} {r : Rec} {m : List UInt8} (h : scanStep l = some (r, m)) : r.may = true ∧ l = oneL r ++ m := by
  obtain ⟨h1, h2, h3⟩ := scanStep_some h
  obtain ⟨_, s, l', hs, hl, hbk⟩ := blockL_back l false (by rw [h2])
  rw [hbk] at h1 h2
  obtain ⟨hm, he⟩ := decR_back h1
  injection h2 with h2 h4
  subst h2
  simp only at he
  refine ⟨hm, ?_⟩
  rw [hl]
  unfold oneL
  rw [he]
  simp [List.append_assoc]
theorem scanTo_back : ∀ (l : List UInt8) (rs : List Rec) (l' : List UInt8), ScanTo l rs l' → l = jrnL rs ++ l' ∧ ∀ r ∈ rs, r.may = true
  | l, [], l', h => ⟨h, fun _ h => by cases h⟩
  | l, r :: rs, l', ⟨m, h1, h2⟩ => by
    obtain ⟨a, b⟩ := scanStep_back h1
    obtain ⟨c, d⟩ := scanTo_back m rs l' h2
    refine ⟨by rw [b, c, jrnL_cons, List.append_assoc], fun x hx => ?_⟩
    rcases List.mem_cons.1 hx with rfl | hx
    · exact a
    · exact d x hx
theorem scanStep_nil : scanStep [] = none := by
  have := scan_end [] 0 (by simp)
  simpa using this
def scanN : Nat → List UInt8 → List Rec × List UInt8
  | 0, l => ([], l)
  | n + 1, l => match scanStep l with
    | none => ([], l)
    | some (r, m) => (r :: (scanN n m).1, (scanN n m).2)
def scanA (l : List UInt8) : List Rec × List UInt8 := scanN l.length l
theorem scanN_spec : ∀ (n : Nat) (l : List UInt8), l.length ≤ n → ScanTo l (scanN n l).1 (scanN n l).2 ∧ scanStep (scanN n l).2 = none
  | 0, l, h => by
    have : l = [] := List.eq_nil_of_length_eq_zero (by omega)
    subst this
    exact ⟨rfl, scanStep_nil⟩
  | n + 1, l, h => by
    unfold scanN
    cases hs : scanStep l with
    | none => exact ⟨rfl, hs⟩
    | some x =>
      obtain ⟨r, m⟩ := x
      have hl := (scanStep_some hs).2.2
      obtain ⟨a, b⟩ := scanN_spec n m (by omega)
      exact ⟨⟨m, hs, a⟩, b⟩
theorem scanA_spec (l : List UInt8) : ScanTo l (scanA l).1 (scanA l).2 ∧ scanStep (scanA l).2 = none := scanN_spec _ l (Nat.le_refl _)
theorem scanA_of {l : List UInt8} {rs : List Rec} {m : List UInt8} (h : ScanTo l rs m) (hn : scanStep m = none) : scanA l = (rs, m) := by
  obtain ⟨a, b⟩ := scanA_spec l
  obtain ⟨c, d⟩ := ScanTo.same l _ _ _ _ a b h hn
  exact Prod.ext c d
theorem scanA_jrn (rs : List Rec) (h : ∀ r ∈ rs, r.may = true) : scanA (jrnL rs) = (rs, []) := by
  have := scanTo_jrn rs [] h
  rw [List.append_nil] at this
  exact scanA_of this scanStep_nil
theorem scanA_back (l : List UInt8) : l = jrnL (scanA l).1 ++ (scanA l).2 ∧ ∀ r ∈ (scanA l).1, r.may = true := scanTo_back _ _ _ (scanA_spec l).1

/-! ### What records tell -/
structure Ety where
  term : Int
  cmd : Cmd
structure WSt where
  gen : Int
  term : Int
  vote : Int
  base : Int
  bterm : Int
  data : ByteArray
  log : List Ety
def WSt.zero : WSt := ⟨0, 0, 0, 0, 0, ByteArray.empty, []⟩
def WSt.one (s : WSt) (r : Rec) : WSt :=
  if r.kind = 2 then { s with term := r.term, vote := r.vote }
  else if r.kind = 3 ∧ 1 ≤ r.index - s.base ∧ r.index - s.base ≤ s.log.length + 1 then { s with log := s.log.take (r.index - s.base - 1).toNat ++ [⟨r.term, r.cmd⟩] }
  else s
def WSt.ofBase (r : Rec) : WSt := ⟨r.gen, 0, -1, r.index, r.term, r.data, []⟩
def WSt.takes (s : WSt) (l : List Rec) : WSt := l.foldl WSt.one s
theorem WSt.takes_snoc (s : WSt) (l : List Rec) (r : Rec) : s.takes (l ++ [r]) = (s.takes l).one r := by simp [WSt.takes]
theorem WSt.takes_append (s : WSt) (l m : List Rec) : s.takes (l ++ m) = (s.takes l).takes m := by simp [WSt.takes]
def told : List Rec → WSt
  | [] => WSt.ofBase Rec.zero
  | r :: rs => (WSt.ofBase r).takes rs
theorem told_append (l m : List Rec) (h : l ≠ []) : told (l ++ m) = (told l).takes m := by
  cases l with
  | nil => exact absurd rfl h
  | cons r rs => simp [told, WSt.takes_append]
theorem WSt.one_base (s : WSt) (r : Rec) : (s.one r).base = s.base ∧ (s.one r).gen = s.gen ∧ (s.one r).data = s.data ∧ (s.one r).bterm = s.bterm := by
  unfold WSt.one; split
  · exact ⟨rfl, rfl, rfl, rfl⟩
  · split <;> exact ⟨rfl, rfl, rfl, rfl⟩
theorem WSt.takes_base (s : WSt) (l : List Rec) : (s.takes l).base = s.base ∧ (s.takes l).gen = s.gen ∧ (s.takes l).data = s.data ∧ (s.takes l).bterm = s.bterm := by
  induction l generalizing s with
  | nil => exact ⟨rfl, rfl, rfl, rfl⟩
  | cons r rs ih =>
    obtain ⟨a, b, c, d⟩ := ih (s.one r)
    obtain ⟨a', b', c', d'⟩ := s.one_base r
    exact ⟨a.trans a', b.trans b', c.trans c', d.trans d'⟩
theorem told_gen (r : Rec) (rs : List Rec) : (told (r :: rs)).gen = r.gen := ((WSt.ofBase r).takes_base rs).2.1
theorem WSt.one_len (s : WSt) (r : Rec) : (s.one r).log.length ≤ s.log.length + 1 := by
  unfold WSt.one; split
  · exact Nat.le_succ _
  · split
    · simp only [List.length_append, List.length_take, List.length_cons, List.length_nil]; omega
    · exact Nat.le_succ _
theorem WSt.takes_len (s : WSt) (l : List Rec) : (s.takes l).log.length ≤ s.log.length + l.length := by
  induction l generalizing s with
  | nil => exact Nat.le_refl _
  | cons r rs ih =>
    have := ih (s.one r)
    have := s.one_len r
    simp only [List.length_cons]
    exact Nat.le_trans (ih (s.one r)) (by omega)
theorem told_len (l : List Rec) : (told l).log.length ≤ l.length := by
  cases l with
  | nil => exact Nat.zero_le _
  | cons r rs => have := (WSt.ofBase r).takes_len rs; simp only [told, List.length_cons]; have h0 : (WSt.ofBase r).log.length = 0 := rfl; omega

/-- Does a file with these records count? -/
def countsB : List Rec → Bool
  | [] => false
  | r :: rs => (r.kind == 1) && (!rs.any fun x => x.kind == 1) && decide (r.many ≤ rs.length)
def basedN (l : List Rec) : Int := if countsB l = true then (l.headD Rec.zero).gen else 0
theorem counts_cons {r : Rec} {rs : List Rec} (h : countsB (r :: rs) = true) : r.kind = 1 ∧ (∀ x ∈ rs, x.kind ≠ 1) ∧ r.many ≤ rs.length := by
  simp only [countsB, Bool.and_eq_true, beq_iff_eq, Bool.not_eq_true', decide_eq_true_eq, List.any_eq_false] at h
  exact ⟨h.1.1, fun x hx => by simpa using h.1.2 x hx, h.2⟩
theorem counts_mk {r : Rec} {rs : List Rec} (h1 : r.kind = 1) (h2 : ∀ x ∈ rs, x.kind ≠ 1) (h3 : r.many ≤ rs.length) : countsB (r :: rs) = true := by
  simp only [countsB, Bool.and_eq_true, beq_iff_eq, Bool.not_eq_true', decide_eq_true_eq, List.any_eq_false]
  exact ⟨⟨h1, fun x hx => by simpa using h2 x hx⟩, h3⟩
theorem counts_append {l m : List Rec} (h : countsB l = true) (hm : ∀ x ∈ m, x.kind ≠ 1) : countsB (l ++ m) = true := by
  cases l with
  | nil => cases h
  | cons r rs =>
    obtain ⟨a, b, c⟩ := counts_cons h
    have e : (rs ++ m).length = rs.length + m.length := List.length_append
    refine counts_mk a (fun x hx => ?_) (by show r.many ≤ ((rs ++ m).length : Int); omega)
    rcases List.mem_append.1 hx with hx | hx
    · exact b x hx
    · exact hm x hx
theorem counts_gen {l : List Rec} (h : countsB l = true) (hm : ∀ r ∈ l, r.may = true) : 1 ≤ (l.headD Rec.zero).gen := by
  cases l with
  | nil => cases h
  | cons r rs =>
    obtain ⟨a, _, _⟩ := counts_cons h
    exact (rec_bd1 r (hm r (by simp)) a).1

/-! ### The records of a state -/
def itemR (i : Int) (e : Ety) : Rec := ⟨3, 0, i, e.term, 0, 0, e.cmd, ByteArray.empty⟩
def itemsR (b : Int) : List Ety → List Rec
  | [] => []
  | e :: es => itemR (b + 1) e :: itemsR (b + 1) es
theorem itemsR_snoc (b : Int) (l : List Ety) (e : Ety) : itemsR b (l ++ [e]) = itemsR b l ++ [itemR (b + 1 + l.length) e] := by
  induction l generalizing b with
  | nil => simp [itemsR]
  | cons x xs ih => simp only [List.cons_append, itemsR, ih, List.length_cons]; rw [show b + 1 + 1 + (xs.length : Int) = b + 1 + ((xs.length + 1 : Nat) : Int) by omega]
theorem itemsR_len (b : Int) (l : List Ety) : (itemsR b l).length = l.length := by
  induction l generalizing b with
  | nil => rfl
  | cons x xs ih => simp [itemsR, ih]
theorem itemsR_kind (b : Int) (l : List Ety) : ∀ r ∈ itemsR b l, r.kind = 3 := by
  induction l generalizing b with
  | nil => intro r h; cases h
  | cons x xs ih =>
    intro r h
    rcases List.mem_cons.1 h with rfl | h
    · rfl
    · exact ih _ r h
def WSt.baseR (s : WSt) : Rec := ⟨1, s.gen, s.base, s.bterm, 0, 1 + s.log.length, Cmd.zero, s.data⟩
def WSt.hardR (s : WSt) : Rec := ⟨2, 0, 0, s.term, s.vote, 0, Cmd.zero, ByteArray.empty⟩
def WSt.recs (s : WSt) : List Rec := s.baseR :: s.hardR :: itemsR s.base s.log
theorem WSt.recs_len (s : WSt) : s.recs.length = s.log.length + 2 := by simp [WSt.recs, itemsR_len]
theorem WSt.recs_counts (s : WSt) : countsB s.recs = true := by
  refine counts_mk rfl (fun x hx => ?_) (by simp only [WSt.baseR, List.length_cons, itemsR_len]; omega)
  rcases List.mem_cons.1 hx with rfl | hx
  · show (2 : Int) ≠ 1; decide
  · rw [itemsR_kind _ _ x hx]; decide
theorem takes_items (s : WSt) (es : List Ety) : s.takes (itemsR (s.base + s.log.length) es) = { s with log := s.log ++ es } := by
  induction es generalizing s with
  | nil => simp [itemsR, WSt.takes]
  | cons e es ih =>
    have h1 : s.one (itemR (s.base + s.log.length + 1) e) = { s with log := s.log ++ [e] } := by
      unfold WSt.one itemR
      simp only
      rw [if_neg (by decide), if_pos ⟨trivial, by omega, by omega⟩]
      congr 2
      rw [List.take_of_length_le (by omega)]
    have h2 := ih { s with log := s.log ++ [e] }
    simp only [List.length_append, List.length_cons, List.length_nil, Nat.zero_add] at h2
    show (s.one _).takes _ = _
    rw [h1, show s.base + ↑s.log.length + 1 = s.base + ((s.log.length + 1 : Nat) : Int) by omega, h2]
    simp
theorem told_recs (s : WSt) : told s.recs = s := by
  show (((WSt.ofBase s.baseR).one s.hardR).takes _) = s
  have h1 : (WSt.ofBase s.baseR).one s.hardR = { s with log := [] } := by
    unfold WSt.one WSt.hardR WSt.ofBase WSt.baseR
    rw [if_pos rfl]
  rw [h1]
  have := takes_items { s with log := [] } s.log
  simpa using this

/-! ### Disks -/
structure Dk where
  b0 : List UInt8
  l0 : Nat
  b1 : List UInt8
  l1 : Nat
  due : Nat
  keep : Int
def stayN (keep : Int) (len l : Nat) : Nat := l + min keep.toNat (len - l)
theorem stayN_le {keep : Int} {len l : Nat} (h : l ≤ len) : stayN keep len l ≤ len := by unfold stayN; omega
theorem stayN_full (keep : Int) (len : Nat) : stayN keep len len = len := by unfold stayN; omega
def Dk.crash (D : Dk) (keep : Int) : Dk := ⟨D.b0.take (stayN keep D.b0.length D.l0), stayN keep D.b0.length D.l0, D.b1.take (stayN keep D.b1.length D.l1), stayN keep D.b1.length D.l1, 0, keep⟩
def Dk.file (D : Dk) (k : Nat) : List UInt8 := if k = 0 then D.b0 else D.b1
def Dk.app (D : Dk) (k : Nat) (bs : List UInt8) : Dk := if k = 0 then { D with b0 := D.b0 ++ bs } else { D with b1 := D.b1 ++ bs }
def Dk.last (D : Dk) (k : Nat) : Dk := if k = 0 then { D with l0 := D.b0.length } else { D with l1 := D.b1.length }
def Dk.clr (D : Dk) (k : Nat) : Dk := if k = 0 then { D with b0 := [], l0 := 0 } else { D with b1 := [], l1 := 0 }
def Dk.set (D : Dk) (k : Nat) (b : List UInt8) : Dk := if k = 0 then { D with b0 := b, l0 := b.length } else { D with b1 := b, l1 := b.length }
def Dk.act (D : Dk) : Bool × Dk := if D.due = 0 then (true, D) else if D.due = 1 then (false, D.crash D.keep) else (true, { D with due := D.due - 1 })
structure Dk.Fit (D : Dk) : Prop where
  f0 : D.l0 ≤ D.b0.length
  f1 : D.l1 ≤ D.b1.length
structure Dk.Calm (D : Dk) : Prop where
  c0 : D.l0 = D.b0.length
  c1 : D.l1 = D.b1.length
theorem Dk.Calm.fit {D : Dk} (h : D.Calm) : D.Fit := ⟨by rw [h.c0]; exact Nat.le_refl _, by rw [h.c1]; exact Nat.le_refl _⟩
theorem Dk.Fit.crash {D : Dk} (h : D.Fit) (keep : Int) : (D.crash keep).Calm := by
  have a := stayN_le (keep := keep) h.f0
  have b := stayN_le (keep := keep) h.f1
  constructor
  · simp only [Dk.crash, List.length_take]; omega
  · simp only [Dk.crash, List.length_take]; omega
theorem Dk.Calm.crash_b {D : Dk} (h : D.Calm) (keep : Int) : (D.crash keep).b0 = D.b0 ∧ (D.crash keep).b1 = D.b1 := by
  simp only [Dk.crash, h.c0, h.c1, stayN_full, List.take_length, and_self]
theorem Dk.Fit.app {D : Dk} (h : D.Fit) (k : Nat) (bs : List UInt8) : (D.app k bs).Fit := by
  unfold Dk.app; split
  · exact ⟨by simp only [List.length_append]; have := h.f0; omega, h.f1⟩
  · exact ⟨h.f0, by simp only [List.length_append]; have := h.f1; omega⟩
end Go.Proofs.Ytcbbnmodjnnbeaa
/- A disk of the program: a file that is shortened, a crash, acts. -/
set_option linter.unusedSimpArgs false
set_option linter.unusedVariables false
namespace Go.Proofs.Ytcbbnmodjnnbeaa
open Go.RowKit

theorem OwnB.upto {w : World} {base : Nat} {a : Option Addr} {n cap : Nat} {l : List UInt8} (h : OwnB w base (.slice a n cap) l) {m : Nat} (hm : m ≤ n) : n = l.length ∧ OwnB w base (.slice a m cap) (l.take m) := by
  have hn : n = l.length := by
    rcases h.2 with ⟨h1, h2⟩ | ⟨g, c, cur, hv, _⟩
    · injection h1 with _ h3; omega
    · injection hv
  refine ⟨hn, ?_⟩
  have hl : (l.take m).length = m := by rw [List.length_take]; omega
  refine ⟨by rw [List.length_map, hl, Nat.mul_one], ?_⟩
  rcases h.2 with ⟨h1, h2⟩ | ⟨g, c, cur, hv, h1, h2, h3, h4, h5, h6⟩
  · injection h1 with h1 h3 h4
    left
    rw [hl]
    have : m = 0 := by omega
    subst this
    exact ⟨by rw [h1, h4], rfl⟩
  · injection hv with e1 e2 e3
    subst e1 e3
    refine .inr ⟨g, cap, cur, by rw [hl], h1, h2, by rw [hl]; omega, h4, h5, ?_⟩
    rw [hl, Nat.mul_one, List.map_take, ← h6, Nat.mul_one, List.take_take, Nat.min_eq_left (by omega)]
theorem OwnB.shape {w : World} {base : Nat} {v : Value} {l : List UInt8} (h : OwnB w base v l) : ∃ a cap, v = .slice a l.length cap ∧ l.length ≤ cap ∧ cap ≤ maxLen ∧ (a = none ∨ ∃ g, a = some ⟨g, 0, none⟩) := by
  rcases h.2 with ⟨h1, h2⟩ | ⟨g, c, cur, hv, h1, h2, h3, h4, h5, h6⟩
  · exact ⟨none, 0, by rw [h1, h2], by rw [h2]; exact Nat.le_refl _, Nat.zero_le _, .inl rfl⟩
  · exact ⟨_, c, hv, h3, h4, .inr ⟨g, rfl⟩⟩
set_option maxHeartbeats 1000000 in
theorem walShorten (w : World) (p o : Nat) (a : Option Addr) (n cap l m : Nat) (mi : Int) (hmi : mi = m) (h0 : w.cell? ⟨p, o, none⟩ = some (.slice a n cap)) (h1 : w.cell? ⟨p, o + 1, none⟩ = some (.int .i64 l)) (hf : ∀ o, w.frozen? ⟨p, o, none⟩ = false) (hm : m ≤ n) (hc : n ≤ cap) (hcm : cap ≤ maxLen) (ho : a = none ∨ ∃ g, a = some ⟨g, 0, none⟩) :
    Calls Try.prog 140 #[.pointer (some ⟨p, o, none⟩), .int .i64 mi] w fun e w' => e = .returned (.tuple #[]) ∧ w' = (w.setCell ⟨p, o, none⟩ (.slice a m cap)).setCell ⟨p, o + 1, none⟩ (.int .i64 (min (l : Int) m)) := by
  subst hmi
  unfold maxLen at hcm
  rcases ho with rfl | ⟨g, rfl⟩
  · go_enter Try.func140, Try.ntmps140
    go_wp2_with fail
    go_end0
    exact ⟨rfl, rfl⟩
  · go_enter Try.func140, Try.ntmps140
    go_wp2_with fail
    go_end0
    exact ⟨rfl, rfl⟩
set_option maxHeartbeats 1000000 in
theorem walFileCrash (w : World) (p o : Nat) (a : Option Addr) (n cap l : Nat) (keep : Int) (h0 : w.cell? ⟨p, o, none⟩ = some (.slice a n cap)) (h1 : w.cell? ⟨p, o + 1, none⟩ = some (.int .i64 l)) (hf : ∀ o, w.frozen? ⟨p, o, none⟩ = false) (hl : l ≤ n) (hc : n ≤ cap) (hcm : cap ≤ maxLen) (ho : a = none ∨ ∃ g, a = some ⟨g, 0, none⟩) (hk : keep < 9223372036854775808) (hk0 : -9223372036854775808 ≤ keep) :
    Calls Try.prog 101 #[.pointer (some ⟨p, o, none⟩), .int .i64 keep] w fun e w' => e = .returned (.tuple #[]) ∧ w.turned w' (fun k => k = p) ∧ ∀ cs T, w.heap[p]? = some (.cells cs T) → w'.heap[p]? = some (.cells ((cs.setIfInBounds o (.slice a (stayN keep n l) cap)).setIfInBounds (o + 1) (.int .i64 (stayN keep n l : Nat))) T) := by
  have hcm' := hcm
  unfold maxLen at hcm
  obtain ⟨k, hk⟩ : ∃ k, k = min keep.toNat (n - l) := ⟨_, rfl⟩
  have hmin : min (max keep 0) (IntKind.i64.wrap ((n : Int) - l)) = (k : Int) := by rw [wrap_id _ (by omega) (by omega)]; omega
  have hkn : l + k ≤ n := by omega
  have hS : Hid (stayN keep n l = l + k) := by show _ = _; unfold stayN; rw [hk]
  have e1 : Hid ((if (l : Int) < (l : Int) + k then (l : Int) else l + k) = l) := by show _ = _; split <;> omega
  clear hk
  have HO : Hid (a = none ∨ ∃ g, a = some ⟨g, 0, none⟩) := ho
  clear ho
  go_enter Try.func101, Try.ntmps101
  go_wp2_with fail
  go_region_held3 (fun w' => w'.cell? ⟨p, o, none⟩ = some (.slice a n cap) ∧ w'.cell? ⟨p, o + 1, none⟩ = some (.int .i64 l)) (go_keep) (fail)
  go_wp2_with fail
  refine (walShorten w.drew p o a n cap l (l + k) _ (by simp) h0 h1 hf hkn hc hcm' HO.out).mono ?_
  rintro e w1 ⟨rfl, hw1⟩
  have q0 : w1.cell? ⟨p, o, none⟩ = some (.slice a (l + k) cap) := by rw [hw1]; simp [go_sem, h0, h1]
  have q2 : w1.cell? ⟨p, o + 1, none⟩ = some (.int .i64 (min (l : Int) ↑(l + k))) := by rw [hw1]; simp [go_sem, h0, h1]
  have q1 : ∀ o, w1.frozen? ⟨p, o, none⟩ = false := by rw [hw1]; simp [go_sem]; exact hf
  have HW : Hid (w1 = _) := hw1
  clear hw1 h0 h1 hf
  go_wp2_with fail
  go_end0
  rw [HW.out, hS.out]
  refine ⟨rfl, turned_set (S := fun k => k = p) (turned_set (S := fun k => k = p) (turned_set (S := fun k => k = p) (turned_drew _) rfl _) rfl _) rfl _, fun cs T hp => ?_⟩
  rw [cells_set (cells_set (cells_set (show w.drew.heap[p]? = _ from hp) _) _) _]
  simp

/-! ### The whole disk -/
def jptr : Option Nat → Value
  | none => .pointer none
  | some j => .pointer (some ⟨j, 0, none⟩)
def zeroWal : Array Value := #[.pointer none, .int .i64 0, .int .i64 0, .int .i64 0, .int .i64 0, .int .i64 0, .int .i64 0, .string ⟨#[]⟩, .slice none 0 0]
structure DiskAt (w : World) (p : Nat) (v0 v1 : Value) (J : Option Nat) (kp : Int) (D : Dk) : Prop where
  blk : w.heap[p]? = some (.cells #[v0, .int .i64 D.l0, v1, .int .i64 D.l1, .int .i64 D.due, .int .i64 kp, jptr J] 177)
  kq : D.due ≠ 0 → kp = D.keep
  kb : -9223372036854775808 ≤ kp ∧ kp < 9223372036854775808
  db : (D.due : Int) < 9223372036854775808
  o0 : OwnB w 0 v0 D.b0
  o1 : OwnB w 0 v1 D.b1
  n0 : v0.ownBlock ≠ some p
  n1 : v1.ownBlock ≠ some p
  dis : ∀ k, v0.ownBlock = some k → v1.ownBlock ≠ some k
  fit : D.Fit
  jb : ∀ j, J = some j → j ≠ p ∧ v0.ownBlock ≠ some j ∧ v1.ownBlock ≠ some j ∧ ∃ cs : Array Value, cs.size = 9 ∧ w.heap[j]? = some (.cells cs 182)
section
variable {w w' : World} {p : Nat} {v0 v1 : Value} {J : Option Nat} {kp : Int} {D : Dk}
theorem DiskAt.lt (h : DiskAt w p v0 v1 J kp D) : p < w.heap.size := (Array.getElem?_eq_some_iff.1 h.blk).1
theorem DiskAt.frz (h : DiskAt w p v0 v1 J kp D) (o : Nat) : w.frozen? ⟨p, o, none⟩ = false := by simp [World.frozen?, h.blk]
theorem disk_cells {l0 l1 due : Nat} {jv : Value} (h : w.heap[p]? = some (.cells #[v0, .int .i64 l0, v1, .int .i64 l1, .int .i64 due, .int .i64 kp, jv] 177)) :
    w.cell? ⟨p, 0, none⟩ = some v0 ∧ w.cell? ⟨p, 1, none⟩ = some (.int .i64 l0) ∧ w.cell? ⟨p, 2, none⟩ = some v1 ∧ w.cell? ⟨p, 3, none⟩ = some (.int .i64 l1) ∧ w.cell? ⟨p, 4, none⟩ = some (.int .i64 due) ∧ w.cell? ⟨p, 5, none⟩ = some (.int .i64 kp) ∧ w.cell? ⟨p, 6, none⟩ = some jv ∧ ∀ o, w.frozen? ⟨p, o, none⟩ = false := by
  refine ⟨?_, ?_, ?_, ?_, ?_, ?_, ?_, fun o => by simp [World.frozen?, h]⟩
  all_goals (simp only [World.cell?, h]; rfl)
end
set_option maxHeartbeats 1000000 in
theorem walEnd (w : World) (p : Nat) (v0 v1 : Value) (J : Option Nat) (l0 l1 due : Nat) (kp : Int) (hb : w.heap[p]? = some (.cells #[v0, .int .i64 l0, v1, .int .i64 l1, .int .i64 due, .int .i64 kp, jptr J] 177))
    (hj : ∀ j, J = some j → j ≠ p ∧ ∃ cs : Array Value, cs.size = 9 ∧ w.heap[j]? = some (.cells cs 182)) :
    Calls Try.prog 90 #[.pointer (some ⟨p, 0, none⟩)] w fun e w' => e = .returned (.tuple #[]) ∧ w'.heap[p]? = some (.cells #[v0, .int .i64 l0, v1, .int .i64 l1, .int .i64 due, .int .i64 kp, .pointer none] 177) ∧ (∀ j, J = some j → w'.heap[j]? = some (.cells zeroWal 182)) ∧ w.turned w' (fun k => k = p ∨ J = some k) := by
  have hp : p < w.heap.size := (Array.getElem?_eq_some_iff.1 hb).1
  obtain ⟨q0, q1, q2, q3, q4, q5, q6, qf⟩ := disk_cells hb
  cases J with
  | none =>
    have q6' : w.cell? ⟨p, 6, none⟩ = some (.pointer none) := q6
    clear q6
    go_enter Try.func90, Try.ntmps90
    go_wp2_with fail
    go_end0
    exact ⟨rfl, cells_set hb _, (fun j h => by cases h), turned_set (S := fun k => k = p ∨ none = some k) (World.turned.refl _ _) (.inl rfl) _⟩
  | some j =>
    have q6' : w.cell? ⟨p, 6, none⟩ = some (.pointer (some ⟨j, 0, none⟩)) := q6
    clear q6
    obtain ⟨hpj, cs, hcs, hjb⟩ := hj j rfl
    have HB : Hid (w.heap[p]? = some (.cells #[v0, .int .i64 l0, v1, .int .i64 l1, .int .i64 due, .int .i64 kp, .pointer (some ⟨j, 0, none⟩)] 177)) := hb
    have HJ : Hid (w.heap[j]? = some (.cells cs 182)) := hjb
    clear hb hjb hj q0 q1 q2 q3 q4 q5
    go_enter Try.func90, Try.ntmps90
    go_wp2_with (refine wpK_store rfl _ _ _ rfl j 0 rfl _ rfl _ _ HJ.out (by kernel_rfl) (by simp [hcs]) (by simp [Value.oneCell']) ?_; intro w2 hw2 ht2; have hb2 := (ht2.block p hp (fun e => hpj e.symm)).trans HB.out; obtain ⟨q0, q1, q2, q3, q4, q5, q62, qf2⟩ := disk_cells hb2)
    go_end0
    refine ⟨rfl, cells_set hb2 _, ?_, turned_set (S := fun k => k = p ∨ j = k) (ht2.mono fun k _ h => .inr h.symm) (.inl rfl) _⟩
    rw [setCell_heapB, if_neg hpj, hw2]
    have e : cs.toList.drop 9 = [] := List.drop_of_length_le (by simp [hcs])
    simp [zeroWal, e]
theorem DiskAt.crashed {w w' : World} {p : Nat} {a0 a1 : Option Addr} {c0 c1 n0 n1 s0 s1 : Nat} {J : Option Nat} {kp : Int} {D : Dk} {keep : Int} (h : DiskAt w p (.slice a0 n0 c0) (.slice a1 n1 c1) J kp D) (h0 : s0 = stayN keep D.b0.length D.l0) (h1 : s1 = stayN keep D.b1.length D.l1)
    (hb : w'.heap[p]? = some (.cells #[.slice a0 s0 c0, .int .i64 s0, .slice a1 s1 c1, .int .i64 s1, .int .i64 (0 : Nat), .int .i64 0, .pointer none] 177)) (ht : w.turned w' (fun k => k = p ∨ J = some k)) : DiskAt w' p (.slice a0 s0 c0) (.slice a1 s1 c1) none 0 (D.crash keep) := by
  have e0 := (h.o0.upto (m := 0) (Nat.zero_le _)).1
  have e1 := (h.o1.upto (m := 0) (Nat.zero_le _)).1
  have l0 := stayN_le (keep := keep) h.fit.f0
  have l1 := stayN_le (keep := keep) h.fit.f1
  have b0 : (Value.slice a0 s0 c0).ownBlock = (Value.slice a0 n0 c0).ownBlock := by cases a0 <;> rfl
  have b1 : (Value.slice a1 s1 c1).ownBlock = (Value.slice a1 n1 c1).ownBlock := by cases a1 <;> rfl
  refine ⟨?_, fun h => absurd rfl h, ⟨by decide, by decide⟩, by show ((0 : Nat) : Int) < _; decide, ?_, ?_, by rw [b0]; exact h.n0, by rw [b1]; exact h.n1, by rw [b0, b1]; exact h.dis, (h.fit.crash keep).fit, fun j h => by cases h⟩
  · rw [hb]
    simp only [Dk.crash, ← h0, ← h1, jptr]
  · have := (h.o0.upto (m := s0) (by omega)).2
    simp only [Dk.crash, ← h0]
    exact this.keep fun k hk => ht.block k (this.lt hk).2 (fun e => by rw [b0] at hk; exact e.elim (fun e => h.n0 (e ▸ hk)) fun hj => (h.jb k hj).2.1 hk)
  · have := (h.o1.upto (m := s1) (by omega)).2
    simp only [Dk.crash, ← h1]
    exact this.keep fun k hk => ht.block k (this.lt hk).2 (fun e => by rw [b1] at hk; exact e.elim (fun e => h.n1 (e ▸ hk)) fun hj => (h.jb k hj).2.2.1 hk)
set_option maxHeartbeats 1000000 in
theorem walCrash (w : World) (p : Nat) (v0 v1 : Value) (J : Option Nat) (kp : Int) (D : Dk) (keep : Int) (h : DiskAt w p v0 v1 J kp D) (hk0 : -9223372036854775808 ≤ keep) (hk1 : keep < 9223372036854775808) :
    Calls Try.prog 44 #[.pointer (some ⟨p, 0, none⟩), .int .i64 keep] w fun e w' => e = .returned (.tuple #[]) ∧ ∃ u0 u1, DiskAt w' p u0 u1 none 0 (D.crash keep) ∧ u0.ownBlock = v0.ownBlock ∧ u1.ownBlock = v1.ownBlock ∧ (∀ j, J = some j → w'.heap[j]? = some (.cells zeroWal 182)) ∧ w.turned w' (fun k => k = p ∨ J = some k) := by
  have H : Hid (DiskAt w p v0 v1 J kp D) := h
  have hp := h.lt
  have hb := h.blk
  obtain ⟨a0, c0, rfl, hc0, hm0, ha0⟩ := h.o0.shape
  obtain ⟨a1, c1, rfl, hc1, hm1, ha1⟩ := h.o1.shape
  have hf0 := h.fit.f0
  have hf1 := h.fit.f1
  clear h
  obtain ⟨s0, hs0⟩ : ∃ s, s = stayN keep D.b0.length D.l0 := ⟨_, rfl⟩
  obtain ⟨s1, hs1⟩ : ∃ s, s = stayN keep D.b1.length D.l1 := ⟨_, rfl⟩
  have HS0 : Hid (s0 = stayN keep D.b0.length D.l0) := hs0
  have HS1 : Hid (s1 = stayN keep D.b1.length D.l1) := hs1
  have HB : Hid (w.heap[p]? = some (.cells #[.slice a0 D.b0.length c0, .int .i64 D.l0, .slice a1 D.b1.length c1, .int .i64 D.l1, .int .i64 D.due, .int .i64 kp, jptr J] 177)) := hb
  clear hs0 hs1 hb
  go_enter Try.func44, Try.ntmps44
  go_wp2_with fail
  go_loopw [5] (fun kv wr => w.turned wr (fun k => k = p) ∧ ((kv = .int .i64 0 ∧ Hid (wr.heap[p]? = some (.cells #[.slice a0 D.b0.length c0, .int .i64 D.l0, .slice a1 D.b1.length c1, .int .i64 D.l1, .int .i64 D.due, .int .i64 kp, jptr J] 177))) ∨ (kv = .int .i64 1 ∧ Hid (wr.heap[p]? = some (.cells #[.slice a0 s0 c0, .int .i64 s0, .slice a1 D.b1.length c1, .int .i64 D.l1, .int .i64 D.due, .int .i64 kp, jptr J] 177)))
    ∨ (kv = .int .i64 2 ∧ Hid (wr.heap[p]? = some (.cells #[.slice a0 s0 c0, .int .i64 s0, .slice a1 s1 c1, .int .i64 s1, .int .i64 D.due, .int .i64 kp, jptr J] 177))))) (fun kv _ => 2 - (intOf kv).toNat)
  case atStart => exact ⟨World.turned.refl _ _, .inl ⟨rfl, HB⟩⟩
  case round =>
    obtain ⟨ht, hcase⟩ := hrel
    rcases hcase with ⟨rfl, HW⟩ | ⟨rfl, HW⟩ | ⟨rfl, HW⟩
    · obtain ⟨q0, q1, q2, q3, q4, q5, q6, qf⟩ := disk_cells HW.out
      go_wp2_with fail
      refine (walFileCrash _ p 0 a0 _ c0 _ keep q0 q1 qf hf0 hc0 hm0 ha0 hk1 hk0).mono ?_
      rintro e w1 ⟨rfl, ht1, hb1⟩
      have HB1 := hb1 _ _ HW.out
      rw [← HS0.out] at HB1
      have HB1' : Hid (w1.heap[p]? = some (.cells #[.slice a0 s0 c0, .int .i64 s0, .slice a1 D.b1.length c1, .int .i64 D.l1, .int .i64 D.due, .int .i64 kp, jptr J] 177)) := HB1
      clear HB1 hb1 q0 q1 q2 q3 q4 q5 q6 qf
      go_wp2_with fail
      exact ⟨⟨ht.trans ht1 fun k _ h => h, .inr (.inl ⟨rfl, HB1'⟩)⟩, by simp [intOf]⟩
    · obtain ⟨q0, q1, q2, q3, q4, q5, q6, qf⟩ := disk_cells HW.out
      go_wp2_with fail
      refine (walFileCrash _ p 2 a1 _ c1 _ keep q2 q3 qf hf1 hc1 hm1 ha1 hk1 hk0).mono ?_
      rintro e w1 ⟨rfl, ht1, hb1⟩
      have HB1 := hb1 _ _ HW.out
      rw [← HS1.out] at HB1
      have HB1' : Hid (w1.heap[p]? = some (.cells #[.slice a0 s0 c0, .int .i64 s0, .slice a1 s1 c1, .int .i64 s1, .int .i64 D.due, .int .i64 kp, jptr J] 177)) := HB1
      clear HB1 hb1 q0 q1 q2 q3 q4 q5 q6 qf
      go_wp2_with fail
      exact ⟨⟨ht.trans ht1 fun k _ h => h, .inr (.inr ⟨rfl, HB1'⟩)⟩, by simp [intOf]⟩
    · obtain ⟨q0, q1, q2, q3, q4, q5, q6, qf⟩ := disk_cells HW.out
      clear q0 q1 q2 q3 q6
      have HT : Hid (w.turned wr (fun k => k = p)) := ht
      clear ht
      go_wp2_with fail
      have HT2 : Hid (w.turned ((wr.setCell ⟨p, 4, none⟩ (.int .i64 0)).setCell ⟨p, 5, none⟩ (.int .i64 0)) (fun k => k = p)) := turned_set (S := fun k => k = p) (turned_set (S := fun k => k = p) HT.out rfl _) rfl _
      refine (walEnd _ p (.slice a0 s0 c0) (.slice a1 s1 c1) J s0 s1 0 0 (cells_set (cells_set HW.out _) _) (fun j hj => ?_)).mono ?_
      · obtain ⟨h1, h2, h3, cs, h4, h5⟩ := H.out.jb j hj
        exact ⟨h1, cs, h4, (HT2.out.block j (Array.getElem?_eq_some_iff.1 h5).1 h1).trans h5⟩
      rintro e w1 ⟨rfl, hb1, hj1, ht1⟩
      have HT3 : w.turned w1 (fun k => k = p ∨ J = some k) := (HT2.out.mono fun k _ h => .inl h).trans ht1 fun k _ h => h
      have HD := H.out.crashed HS0.out HS1.out hb1 HT3
      have b0 : (Value.slice a0 s0 c0).ownBlock = (Value.slice a0 D.b0.length c0).ownBlock := by cases a0 <;> rfl
      have b1 : (Value.slice a1 s1 c1).ownBlock = (Value.slice a1 D.b1.length c1).ownBlock := by cases a1 <;> rfl
      have HX : Hid (∃ u0 u1, DiskAt w1 p u0 u1 none 0 (D.crash keep) ∧ u0.ownBlock = (Value.slice a0 D.b0.length c0).ownBlock ∧ u1.ownBlock = (Value.slice a1 D.b1.length c1).ownBlock ∧ (∀ j, J = some j → w1.heap[j]? = some (.cells zeroWal 182)) ∧ w.turned w1 (fun k => k = p ∨ J = some k)) := ⟨_, _, HD, b0, b1, hj1, HT3⟩
      clear HD b0 b1 hj1 HT3 hb1 ht1
      go_wp2_with fail
      go_end0
      exact ⟨rfl, HX.out⟩
end Go.Proofs.Ytcbbnmodjnnbeaa
/- The acts of a disk of the program. -/
set_option linter.unusedSimpArgs false
set_option linter.unusedVariables false
namespace Go.Proofs.Ytcbbnmodjnnbeaa
open Go.RowKit

def footD (p : Nat) (v0 v1 : Value) (x : Nat) : Prop := x = p ∨ v0.ownBlock = some x ∨ v1.ownBlock = some x
theorem DiskAt.foot_lt {w : World} {p : Nat} {v0 v1 : Value} {J : Option Nat} {kp : Int} {D : Dk} (h : DiskAt w p v0 v1 J kp D) {x : Nat} (hx : footD p v0 v1 x) : x < w.heap.size := by
  rcases hx with rfl | hx | hx
  · exact h.lt
  · exact (h.o0.lt hx).2
  · exact (h.o1.lt hx).2
/-- What an act leaves: r: did it go well; the disk behind it. -/
def DOut (w w' : World) (p : Nat) (v0 v1 : Value) (J : Option Nat) (r : Bool × Dk) : Prop :=
  ∃ u0 u1 kp', DiskAt w' p u0 u1 (if r.1 = true then J else none) kp' r.2 ∧ (∀ x, footD p u0 u1 x → footD p v0 v1 x ∨ w.heap.size ≤ x) ∧ (r.1 = false → ∀ j, J = some j → w'.heap[j]? = some (.cells zeroWal 182)) ∧ w.turned w' (fun x => footD p v0 v1 x ∨ (r.1 = false ∧ J = some x))
theorem footD_same {p : Nat} {v0 v1 u0 u1 : Value} (h0 : u0.ownBlock = v0.ownBlock) (h1 : u1.ownBlock = v1.ownBlock) (x : Nat) (h : footD p u0 u1 x) : footD p v0 v1 x := by unfold footD at *; rw [h0, h1] at h; exact h
/-- An act behind something that was done to the disk. -/
theorem DOut.behind {w w1 w2 : World} {p : Nat} {v0 v1 u0 u1 : Value} {J : Option Nat} {r : Bool × Dk} (h : DOut w1 w2 p u0 u1 J r) (hf : ∀ x, footD p u0 u1 x → footD p v0 v1 x ∨ w.heap.size ≤ x) (ht : w.turned w1 (fun x => footD p v0 v1 x)) : DOut w w2 p v0 v1 J r := by
  obtain ⟨x0, x1, kp', a, b, c, d⟩ := h
  have hs := ht.size
  refine ⟨x0, x1, kp', a, fun x hx => ?_, c, (ht.mono fun k _ h => .inl h).trans d fun k hk h => ?_⟩
  · rcases b x hx with h1 | h1
    · exact hf x h1
    · exact .inr (by omega)
  · rcases h with h | h
    · rcases hf k h with h1 | h1
      · exact .inl h1
      · omega
    · exact .inr h
theorem DiskAt.due {w w' : World} {p : Nat} {v0 v1 : Value} {J : Option Nat} {kp : Int} {D : Dk} (h : DiskAt w p v0 v1 J kp D) (m : Nat) (hm : m ≤ D.due) (hb : w'.heap[p]? = some (.cells #[v0, .int .i64 D.l0, v1, .int .i64 D.l1, .int .i64 m, .int .i64 kp, jptr J] 177)) (ht : w.turned w' (fun k => k = p)) : DiskAt w' p v0 v1 J kp { D with due := m } :=
  ⟨hb, fun hne => h.kq (by simp only at hne; omega), h.kb, by have := h.db; simp only; omega, h.o0.keep fun k hk => ht.block k (h.o0.lt hk).2 (fun e => h.n0 (e ▸ hk)), h.o1.keep fun k hk => ht.block k (h.o1.lt hk).2 (fun e => h.n1 (e ▸ hk)), h.n0, h.n1, h.dis, ⟨h.fit.f0, h.fit.f1⟩, fun j hj => by
    obtain ⟨a, b, c, cs, d, e⟩ := h.jb j hj
    exact ⟨a, b, c, cs, d, (ht.block j (Array.getElem?_eq_some_iff.1 e).1 a).trans e⟩⟩
set_option maxHeartbeats 1000000 in
theorem walAct (w : World) (p : Nat) (v0 v1 : Value) (J : Option Nat) (kp : Int) (D : Dk) (h : DiskAt w p v0 v1 J kp D) :
    Calls Try.prog 142 #[.pointer (some ⟨p, 0, none⟩)] w fun e w' => e = .returned (.bool D.act.1) ∧ DOut w w' p v0 v1 J D.act := by
  have H : Hid (DiskAt w p v0 v1 J kp D) := h
  have HB : Hid _ := h.blk
  have hp := h.lt
  have hdb := h.db
  obtain ⟨q0, q1, q2, q3, q4, q5, q6, qf⟩ := disk_cells h.blk
  have hkq := h.kq
  have hkb := h.kb
  clear h
  by_cases h0 : D.due = 0
  · have ea : D.act = (true, D) := by unfold Dk.act; rw [if_pos h0]
    rw [h0] at q4
    have EA : Hid (D.act = (true, D)) := ea
    clear ea hkq
    go_enter Try.func142, Try.ntmps142
    go_wp2_with fail
    go_ret
    rw [EA.out]
    exact ⟨rfl, v0, v1, kp, H.out, fun x hx => .inl hx, (fun h => by cases h), World.turned.refl _ _⟩
  · by_cases h1 : D.due = 1
    · have ea : D.act = (false, D.crash D.keep) := by unfold Dk.act; rw [if_neg h0, if_pos h1]
      have EA : Hid (D.act = (false, D.crash D.keep)) := ea
      have hke := hkq h0
      subst hke
      rw [h1] at q4
      have HD : Hid (D.due = 1) := h1
      clear ea hkq h0 h1
      go_enter Try.func142, Try.ntmps142
      go_wp2_with fail
      have ht := turned_set (S := fun k => k = p) (World.turned.refl w (fun k => k = p)) rfl (o := 4) (.int .i64 0)
      have hd := H.out.due 0 (Nat.zero_le _) (cells_set HB.out _) ht
      refine (walCrash _ p v0 v1 J _ _ _ hd hkb.1 hkb.2).mono ?_
      rintro e w1 ⟨rfl, u0, u1, hD1, hu0, hu1, hj1, ht1⟩
      have HX : Hid (DOut w w1 p v0 v1 J (false, D.crash D.keep)) := ⟨u0, u1, 0, hD1, fun x hx => .inl (footD_same hu0 hu1 x hx), fun _ => hj1, (ht.mono fun k _ h => .inl (.inl h)).trans ht1 fun k _ h => h.imp (fun h => .inl h) fun h => ⟨rfl, h⟩⟩
      clear hD1 hu0 hu1 hj1 ht1 hd ht
      go_wp2_with fail
      go_ret
      rw [EA.out]
      exact ⟨rfl, HX.out⟩
    · have ea : D.act = (true, { D with due := D.due - 1 }) := by unfold Dk.act; rw [if_neg h0, if_neg h1]
      have EA : Hid (D.act = (true, { D with due := D.due - 1 })) := ea
      obtain ⟨m, hm⟩ : ∃ m : Nat, D.due = m + 2 := ⟨D.due - 2, by omega⟩
      obtain ⟨d, hd⟩ : ∃ d : Int, d = (D.due : Int) := ⟨_, rfl⟩
      obtain ⟨d1, hd1⟩ : ∃ d1 : Int, d1 = ((D.due - 1 : Nat) : Int) := ⟨_, rfl⟩
      rw [← hd] at q4
      have w1 : IntKind.i64.wrap (d - 1) = d1 := by rw [wrap_id _ (by omega) (by omega)]; omega
      have b0 : (d == 0) = false := beq_eq_false_iff_ne.2 (by omega)
      have b1 : decide (d1 > 0) = true := decide_eq_true (by omega)
      have HD1 : Hid (d1 = ((D.due - 1 : Nat) : Int)) := hd1
      clear ea hkq h0 h1 hd hd1 hm hdb
      go_enter Try.func142, Try.ntmps142
      go_wp2_with fail
      go_ret
      rw [EA.out]
      have ht := turned_set (S := fun k => k = p) (World.turned.refl w (fun k => k = p)) rfl (o := 4) (.int .i64 d1)
      have hd := H.out.due (D.due - 1) (Nat.sub_le _ _) (by rw [cells_set HB.out, HD1.out]; rfl) ht
      exact ⟨rfl, v0, v1, kp, hd, fun x hx => .inl hx, (fun h => by cases h), ht.mono fun k _ h => .inl (.inl h)⟩
theorem DiskAt.put0 {w w1 : World} {p : Nat} {v0 v1 v' : Value} {J : Option Nat} {kp : Int} {D : Dk} {l : List UInt8} (h : DiskAt w p v0 v1 J kp D) (hg : Grew w w1 v0 v') (ho : OwnB w1 0 v' (D.b0 ++ l)) : DiskAt (w1.setCell ⟨p, 0, none⟩ v') p v' v1 J kp (D.app 0 l) := by
  have hb1 : w1.heap[p]? = _ := (hg.keep h.lt h.n0).trans h.blk
  have hv : ∀ k, v'.ownBlock = some k → v0.ownBlock = some k ∨ w.heap.size ≤ k := fun k hk => hg.own.elim (fun e => .inl (e ▸ hk)) fun e => .inr (e k hk)
  have np : v'.ownBlock ≠ some p := fun hk => (hv p hk).elim h.n0 fun hp => by have := h.lt; omega
  refine ⟨cells_set hb1 _, h.kq, h.kb, h.db, ho.keep fun k hk => Below.heap_setCell _ _ _ _ (fun e => np (by rw [hk, e])), (h.o1.keep fun k hk => (Below.heap_setCell _ _ _ _ (fun e => h.n1 (by rw [hk, e]))).trans (hg.keep (h.o1.lt hk).2 fun e => h.dis k e hk)), np, h.n1, fun k hk => ?_, h.fit.app 0 l, fun j hj => ?_⟩
  · rcases hv k hk with h1 | h1
    · exact h.dis k h1
    · intro h2; have := (h.o1.lt h2).2; omega
  · obtain ⟨a, b, c, cs, d, e⟩ := h.jb j hj
    have hlt := (Array.getElem?_eq_some_iff.1 e).1
    refine ⟨a, fun hk => ?_, c, cs, d, ((Below.heap_setCell _ _ _ _ (fun e => a e)).trans (hg.keep hlt b)).trans e⟩
    rcases hv j hk with h1 | h1
    · exact b h1
    · omega
theorem DiskAt.put1 {w w1 : World} {p : Nat} {v0 v1 v' : Value} {J : Option Nat} {kp : Int} {D : Dk} {l : List UInt8} (h : DiskAt w p v0 v1 J kp D) (hg : Grew w w1 v1 v') (ho : OwnB w1 0 v' (D.b1 ++ l)) : DiskAt (w1.setCell ⟨p, 2, none⟩ v') p v0 v' J kp (D.app 1 l) := by
  have hb1 : w1.heap[p]? = _ := (hg.keep h.lt h.n1).trans h.blk
  have hv : ∀ k, v'.ownBlock = some k → v1.ownBlock = some k ∨ w.heap.size ≤ k := fun k hk => hg.own.elim (fun e => .inl (e ▸ hk)) fun e => .inr (e k hk)
  have np : v'.ownBlock ≠ some p := fun hk => (hv p hk).elim h.n1 fun hp => by have := h.lt; omega
  refine ⟨cells_set hb1 _, h.kq, h.kb, h.db, (h.o0.keep fun k hk => (Below.heap_setCell _ _ _ _ (fun e => h.n0 (by rw [hk, e]))).trans (hg.keep (h.o0.lt hk).2 fun e => h.dis k hk e)), ho.keep fun k hk => Below.heap_setCell _ _ _ _ (fun e => np (by rw [hk, e])), h.n0, np, fun k hk h2 => ?_, h.fit.app 1 l, fun j hj => ?_⟩
  · rcases hv k h2 with h1 | h1
    · exact h.dis k hk h1
    · have := (h.o0.lt hk).2; omega
  · obtain ⟨a, b, c, cs, d, e⟩ := h.jb j hj
    have hlt := (Array.getElem?_eq_some_iff.1 e).1
    refine ⟨a, b, fun hk => ?_, cs, d, ((Below.heap_setCell _ _ _ _ (fun e => a e)).trans (hg.keep hlt c)).trans e⟩
    rcases hv j hk with h1 | h1
    · exact c h1
    · omega
theorem srcB {w : World} {g n cap : Nat} {l : List UInt8} (h : OwnB w 0 (.slice (some ⟨g, 0, none⟩) n cap) l) : n = l.length ∧ Src Try.prog 1 47 (.slice (some ⟨g, 0, none⟩) n cap) l.length (l.map byteV) w := by
  obtain ⟨a, c, hv, _⟩ := h.shape
  injection hv with h1 h2 h3
  subst h2
  exact ⟨rfl, Src.ofSlice w Try.underlying47 _ _ cap _ (by simp) (fun j u hj => World.ownsRow.cells h (g := g) rfl j u hj) (byteV_one l)⟩
theorem OwnB.shape3 {w : World} {base : Nat} {v : Value} {l : List UInt8} (h : OwnB w base v l) : ∃ a n cap, v = .slice a n cap := by
  obtain ⟨a, c, hv, _⟩ := h.shape
  exact ⟨_, _, _, hv⟩
set_option maxHeartbeats 1000000 in
theorem walPut (w : World) (p : Nat) (v0 v1 : Value) (J : Option Nat) (kp : Int) (D : Dk) (h : DiskAt w p v0 v1 J kp D) (k : Nat) (hk : k = 0 ∨ k = 1) (g n cap : Nat) (l : List UInt8) (hb : OwnB w 0 (.slice (some ⟨g, 0, none⟩) n cap) l) (hl : (D.file k).length + l.length ≤ 1099511627776) :
    Calls Try.prog 96 #[.pointer (some ⟨p, 0, none⟩), .int .i64 k, .slice (some ⟨g, 0, none⟩) n cap] w fun e w' => e = .returned (.bool (D.app k l).act.1) ∧ DOut w w' p v0 v1 J (D.app k l).act := by
  have H : Hid (DiskAt w p v0 v1 J kp D) := h
  obtain ⟨q0, q1, q2, q3, q4, q5, q6, qf⟩ := disk_cells h.blk
  obtain ⟨hn, hsrc⟩ := srcB hb
  have HN : Hid (n = l.length) := hn
  have o0 := h.o0
  have o1 := h.o1
  have hp := h.lt
  have n0 := h.n0
  have n1 := h.n1
  clear h hn
  rcases hk with rfl | rfl
  · have hl' : D.b0.length + (l.length : Nat) ≤ 1099511627776 := hl
    have HL : Hid (D.b0.length + l.length ≤ 1099511627776) := hl'
    clear hl hl' q1 q2 q3 q4 q5 q6
    go_enter Try.func96, Try.ntmps96
    go_wp2_with (at_builtin; refine wpB rfl _ _ _ rfl 0 v0 D.b0 rfl o0 _ _ l rfl rfl hsrc HL.out (Nat.zero_le _) ?_; intro v' w1 ho1 hg1; obtain ⟨a', N', cap', rfl⟩ := ho1.shape3; have HD1 : Hid (DiskAt (w1.setCell ⟨p, 0, none⟩ _) p _ v1 J kp (D.app 0 l)) := H.out.put0 hg1 ho1; have HT1 : Hid (w.turned w1 (fun x => footD p v0 v1 x) ∧ w.heap.size ≤ w1.heap.size ∧ ∀ k, (Value.slice a' N' cap').ownBlock = some k → v0.ownBlock = some k ∨ w.heap.size ≤ k) := ⟨(World.turned.of_grew hg1).mono fun k _ hk => .inr (.inl hk), hg1.g.size, fun k hk => hg1.own.elim (fun e => .inl (e ▸ hk)) fun e => .inr (e k hk)⟩; have z0 : w1.cell? ⟨p, 0, none⟩ = some v0 := (by simp only [World.cell?, hg1.keep hp n0]; exact q0); have zf : ∀ o, w1.frozen? ⟨p, o, none⟩ = false := (by intro o; have := qf o; simp only [World.frozen?, hg1.keep hp n0] at this ⊢; exact this); clear ho1 hg1)
    refine (walAct _ p _ _ J kp _ HD1.out).mono ?_
    rintro e w2 ⟨rfl, hd2⟩
    have HX : Hid (DOut w w2 p v0 v1 J (D.app 0 l).act) := hd2.behind (fun x hx => by
      obtain ⟨t1, t2, t3⟩ := HT1.out
      rcases hx with h1 | h1 | h1
      · exact .inl (.inl h1)
      · exact (t3 x h1).imp (fun h => .inr (.inl h)) id
      · exact .inl (.inr (.inr h1))) (turned_set HT1.out.1 (.inl rfl) _)
    clear hd2
    obtain ⟨r, hr⟩ : ∃ r, (D.app 0 l).act = r := ⟨_, rfl⟩
    rw [hr] at HX ⊢
    have HR : Hid ((D.app 0 l).act = r) := hr
    clear hr
    go_wp2_with fail
    go_ret
    rw [HR.out]
    exact ⟨rfl, HX.out⟩
  · have hl' : D.b1.length + (l.length : Nat) ≤ 1099511627776 := hl
    have HL : Hid (D.b1.length + l.length ≤ 1099511627776) := hl'
    clear hl hl' q0 q1 q3 q4 q5 q6
    go_enter Try.func96, Try.ntmps96
    go_wp2_with (at_builtin; refine wpB rfl _ _ _ rfl 0 v1 D.b1 rfl o1 _ _ l rfl rfl hsrc HL.out (Nat.zero_le _) ?_; intro v' w1 ho1 hg1; obtain ⟨a', N', cap', rfl⟩ := ho1.shape3; have HD1 : Hid (DiskAt (w1.setCell ⟨p, 2, none⟩ _) p v0 _ J kp (D.app 1 l)) := H.out.put1 hg1 ho1; have HT1 : Hid (w.turned w1 (fun x => footD p v0 v1 x) ∧ w.heap.size ≤ w1.heap.size ∧ ∀ k, (Value.slice a' N' cap').ownBlock = some k → v1.ownBlock = some k ∨ w.heap.size ≤ k) := ⟨(World.turned.of_grew hg1).mono fun k _ hk => .inr (.inr hk), hg1.g.size, fun k hk => hg1.own.elim (fun e => .inl (e ▸ hk)) fun e => .inr (e k hk)⟩; have z0 : w1.cell? ⟨p, 2, none⟩ = some v1 := (by simp only [World.cell?, hg1.keep hp n1]; exact q2); have zf : ∀ o, w1.frozen? ⟨p, o, none⟩ = false := (by intro o; have := qf o; simp only [World.frozen?, hg1.keep hp n1] at this ⊢; exact this); clear ho1 hg1)
    refine (walAct _ p _ _ J kp _ HD1.out).mono ?_
    rintro e w2 ⟨rfl, hd2⟩
    have HX : Hid (DOut w w2 p v0 v1 J (D.app 1 l).act) := hd2.behind (fun x hx => by
      obtain ⟨t1, t2, t3⟩ := HT1.out
      rcases hx with h1 | h1 | h1
      · exact .inl (.inl h1)
      · exact .inl (.inr (.inl h1))
      · exact (t3 x h1).imp (fun h => .inr (.inr h)) id) (turned_set HT1.out.1 (.inl rfl) _)
    clear hd2
    obtain ⟨r, hr⟩ : ∃ r, (D.app 1 l).act = r := ⟨_, rfl⟩
    rw [hr] at HX ⊢
    have HR : Hid ((D.app 1 l).act = r) := hr
    clear hr
    go_wp2_with fail
    go_ret
    rw [HR.out]
    exact ⟨rfl, HX.out⟩
theorem DiskAt.last0 {w w1 : World} {p : Nat} {v0 v1 : Value} {J : Option Nat} {kp : Int} {D : Dk} (h : DiskAt w p v0 v1 J kp D) (hb : w1.heap[p]? = some (.cells #[v0, .int .i64 D.b0.length, v1, .int .i64 D.l1, .int .i64 D.due, .int .i64 kp, jptr J] 177)) (ht : w.turned w1 (fun k => k = p)) : DiskAt w1 p v0 v1 J kp (D.last 0) :=
  ⟨hb, h.kq, h.kb, h.db, h.o0.keep fun k hk => ht.block k (h.o0.lt hk).2 (fun e => h.n0 (e ▸ hk)), h.o1.keep fun k hk => ht.block k (h.o1.lt hk).2 (fun e => h.n1 (e ▸ hk)), h.n0, h.n1, h.dis, ⟨Nat.le_refl _, h.fit.f1⟩, fun j hj => by
    obtain ⟨a, b, c, cs, d, e⟩ := h.jb j hj
    exact ⟨a, b, c, cs, d, (ht.block j (Array.getElem?_eq_some_iff.1 e).1 a).trans e⟩⟩
theorem DiskAt.last1 {w w1 : World} {p : Nat} {v0 v1 : Value} {J : Option Nat} {kp : Int} {D : Dk} (h : DiskAt w p v0 v1 J kp D) (hb : w1.heap[p]? = some (.cells #[v0, .int .i64 D.l0, v1, .int .i64 D.b1.length, .int .i64 D.due, .int .i64 kp, jptr J] 177)) (ht : w.turned w1 (fun k => k = p)) : DiskAt w1 p v0 v1 J kp (D.last 1) :=
  ⟨hb, h.kq, h.kb, h.db, h.o0.keep fun k hk => ht.block k (h.o0.lt hk).2 (fun e => h.n0 (e ▸ hk)), h.o1.keep fun k hk => ht.block k (h.o1.lt hk).2 (fun e => h.n1 (e ▸ hk)), h.n0, h.n1, h.dis, ⟨h.fit.f0, Nat.le_refl _⟩, fun j hj => by
    obtain ⟨a, b, c, cs, d, e⟩ := h.jb j hj
    exact ⟨a, b, c, cs, d, (ht.block j (Array.getElem?_eq_some_iff.1 e).1 a).trans e⟩⟩
/-- Sync and Cut. -/
def Dk.sync (D : Dk) (k : Nat) : Bool × Dk := if D.act.1 = true then (true, D.act.2.last k) else D.act
def Dk.cut (D : Dk) (k : Nat) : Bool × Dk := if D.act.1 = true then (true, D.act.2.clr k) else D.act
set_option maxHeartbeats 1000000 in
theorem walSync (w : World) (p : Nat) (v0 v1 : Value) (J : Option Nat) (kp : Int) (D : Dk) (h : DiskAt w p v0 v1 J kp D) (k : Nat) (hk : k = 0 ∨ k = 1) :
    Calls Try.prog 97 #[.pointer (some ⟨p, 0, none⟩), .int .i64 k] w fun e w' => e = .returned (.bool (D.sync k).1) ∧ DOut w w' p v0 v1 J (D.sync k) := by
  have H : Hid (DiskAt w p v0 v1 J kp D) := h
  clear h
  rcases hk with rfl | rfl
  · go_enter Try.func97, Try.ntmps97
    go_wp2_with fail
    refine (walAct _ p _ _ J kp _ H.out).mono ?_
    rintro e w1 ⟨rfl, hd1⟩
    by_cases hr : D.act.1 = true
    · obtain ⟨u0, u1, kp', hD, hf, -, ht⟩ := hd1
      have es : Hid (D.sync 0 = (true, D.act.2.last 0)) := by show _ = _; unfold Dk.sync; rw [if_pos hr]
      rw [if_pos hr] at hD
      have HT : Hid ((∀ x, footD p u0 u1 x → footD p v0 v1 x ∨ w.heap.size ≤ x) ∧ w.turned w1 (fun x => footD p v0 v1 x)) := ⟨hf, ht.mono fun k _ h => h.elim id fun h => by rw [hr] at h; cases h.1⟩
      obtain ⟨a, c, hu, -⟩ := hD.o0.shape
      obtain ⟨n, hn⟩ : ∃ n, n = D.act.2.b0.length := ⟨_, rfl⟩
      rw [← hn] at hu
      subst hu
      have HN : Hid (n = D.act.2.b0.length) := hn
      have HD : Hid (DiskAt w1 p (.slice a n c) u1 J kp' D.act.2) := hD
      obtain ⟨q0, q1, q2, q3, q4, q5, q6, qf⟩ := disk_cells hD.blk
      clear hD hf ht hn H
      rw [hr]
      go_wp2_with fail
      go_region_held3 (fun w' => w'.cell? ⟨p, 0, none⟩ = some (.slice a n c)) (first | (simp [go_sem]; assumption) | go_keep) (fail)
      go_wp2_with fail
      go_ret
      rw [es.out]
      have ht1 := turned_set (S := fun k => k = p) (turned_drew (w := w1) (fun k => k = p)) rfl (o := 1) (.int .i64 n)
      have hd2 := HD.out.last0 (by rw [← HN.out]; exact cells_set HD.out.blk _) ht1
      exact ⟨rfl, _, _, kp', hd2, HT.out.1, (fun h => by cases h), (HT.out.2.mono fun k _ h => .inl h).trans ht1 fun k hk h => .inl (.inl h)⟩
    · have hr' : D.act.1 = false := by simpa using hr
      have es : Hid (D.sync 0 = D.act) := by show _ = _; unfold Dk.sync; rw [if_neg hr]
      have HX : Hid (DOut w w1 p v0 v1 J D.act) := hd1
      clear hd1
      rw [hr']
      go_wp2_with fail
      go_ret
      rw [es.out, hr']
      exact ⟨rfl, HX.out⟩
  · go_enter Try.func97, Try.ntmps97
    go_wp2_with fail
    refine (walAct _ p _ _ J kp _ H.out).mono ?_
    rintro e w1 ⟨rfl, hd1⟩
    by_cases hr : D.act.1 = true
    · obtain ⟨u0, u1, kp', hD, hf, -, ht⟩ := hd1
      have es : Hid (D.sync 1 = (true, D.act.2.last 1)) := by show _ = _; unfold Dk.sync; rw [if_pos hr]
      rw [if_pos hr] at hD
      have HT : Hid ((∀ x, footD p u0 u1 x → footD p v0 v1 x ∨ w.heap.size ≤ x) ∧ w.turned w1 (fun x => footD p v0 v1 x)) := ⟨hf, ht.mono fun k _ h => h.elim id fun h => by rw [hr] at h; cases h.1⟩
      obtain ⟨a, c, hu, -⟩ := hD.o1.shape
      obtain ⟨n, hn⟩ : ∃ n, n = D.act.2.b1.length := ⟨_, rfl⟩
      rw [← hn] at hu
      subst hu
      have HN : Hid (n = D.act.2.b1.length) := hn
      have HD : Hid (DiskAt w1 p u0 (.slice a n c) J kp' D.act.2) := hD
      obtain ⟨q0, q1, q2, q3, q4, q5, q6, qf⟩ := disk_cells hD.blk
      clear hD hf ht hn H
      rw [hr]
      go_wp2_with fail
      go_region_held3 (fun w' => w'.cell? ⟨p, 2, none⟩ = some (.slice a n c)) (first | (simp [go_sem]; assumption) | go_keep) (fail)
      go_wp2_with fail
      go_ret
      rw [es.out]
      have ht1 := turned_set (S := fun k => k = p) (turned_drew (w := w1) (fun k => k = p)) rfl (o := 3) (.int .i64 n)
      have hd2 := HD.out.last1 (by rw [← HN.out]; exact cells_set HD.out.blk _) ht1
      exact ⟨rfl, _, _, kp', hd2, HT.out.1, (fun h => by cases h), (HT.out.2.mono fun k _ h => .inl h).trans ht1 fun k hk h => .inl (.inl h)⟩
    · have hr' : D.act.1 = false := by simpa using hr
      have es : Hid (D.sync 1 = D.act) := by show _ = _; unfold Dk.sync; rw [if_neg hr]
      have HX : Hid (DOut w w1 p v0 v1 J D.act) := hd1
      clear hd1
      rw [hr']
      go_wp2_with fail
      go_ret
      rw [es.out, hr']
      exact ⟨rfl, HX.out⟩
theorem DiskAt.clr0 {w w1 : World} {p : Nat} {v0 v1 : Value} {J : Option Nat} {kp : Int} {D : Dk} (h : DiskAt w p v0 v1 J kp D) (hb : w1.heap[p]? = some (.cells #[.slice none 0 0, .int .i64 (0 : Nat), v1, .int .i64 D.l1, .int .i64 D.due, .int .i64 kp, jptr J] 177)) (ht : w.turned w1 (fun k => k = p)) : DiskAt w1 p (.slice none 0 0) v1 J kp (D.clr 0) :=
  ⟨hb, h.kq, h.kb, h.db, OwnB.nil _ _, h.o1.keep fun k hk => ht.block k (h.o1.lt hk).2 (fun e => h.n1 (e ▸ hk)), (fun e => by cases e), h.n1, (fun k hk => by cases hk), ⟨Nat.le_refl _, h.fit.f1⟩, fun j hj => by
    obtain ⟨a, b, c, cs, d, e⟩ := h.jb j hj
    exact ⟨a, (fun e => by cases e), c, cs, d, (ht.block j (Array.getElem?_eq_some_iff.1 e).1 a).trans e⟩⟩
theorem DiskAt.clr1 {w w1 : World} {p : Nat} {v0 v1 : Value} {J : Option Nat} {kp : Int} {D : Dk} (h : DiskAt w p v0 v1 J kp D) (hb : w1.heap[p]? = some (.cells #[v0, .int .i64 D.l0, .slice none 0 0, .int .i64 (0 : Nat), .int .i64 D.due, .int .i64 kp, jptr J] 177)) (ht : w.turned w1 (fun k => k = p)) : DiskAt w1 p v0 (.slice none 0 0) J kp (D.clr 1) :=
  ⟨hb, h.kq, h.kb, h.db, h.o0.keep fun k hk => ht.block k (h.o0.lt hk).2 (fun e => h.n0 (e ▸ hk)), OwnB.nil _ _, h.n0, (fun e => by cases e), (fun k hk e => by cases e), ⟨h.fit.f0, Nat.le_refl _⟩, fun j hj => by
    obtain ⟨a, b, c, cs, d, e⟩ := h.jb j hj
    exact ⟨a, b, (fun e => by cases e), cs, d, (ht.block j (Array.getElem?_eq_some_iff.1 e).1 a).trans e⟩⟩
set_option maxHeartbeats 1000000 in
theorem walCut (w : World) (p : Nat) (v0 v1 : Value) (J : Option Nat) (kp : Int) (D : Dk) (h : DiskAt w p v0 v1 J kp D) (k : Nat) (hk : k = 0 ∨ k = 1) :
    Calls Try.prog 145 #[.pointer (some ⟨p, 0, none⟩), .int .i64 k] w fun e w' => e = .returned (.bool (D.cut k).1) ∧ DOut w w' p v0 v1 J (D.cut k) := by
  have H : Hid (DiskAt w p v0 v1 J kp D) := h
  clear h
  rcases hk with rfl | rfl
  · go_enter Try.func145, Try.ntmps145
    go_wp2_with fail
    refine (walAct _ p _ _ J kp _ H.out).mono ?_
    rintro e w1 ⟨rfl, hd1⟩
    by_cases hr : D.act.1 = true
    · obtain ⟨u0, u1, kp', hD, hf, -, ht⟩ := hd1
      have es : Hid (D.cut 0 = (true, D.act.2.clr 0)) := by show _ = _; unfold Dk.cut; rw [if_pos hr]
      rw [if_pos hr] at hD
      have HT : Hid ((∀ x, footD p u0 u1 x → footD p v0 v1 x ∨ w.heap.size ≤ x) ∧ w.turned w1 (fun x => footD p v0 v1 x)) := ⟨hf, ht.mono fun k _ h => h.elim id fun h => by rw [hr] at h; cases h.1⟩
      have HD : Hid (DiskAt w1 p u0 u1 J kp' D.act.2) := hD
      obtain ⟨q0, q1, q2, q3, q4, q5, q6, qf⟩ := disk_cells hD.blk
      clear hD hf ht H
      rw [hr]
      go_wp2_with fail
      go_ret
      rw [es.out]
      have ht1 := turned_set (S := fun k => k = p) (turned_set (S := fun k => k = p) (World.turned.refl w1 (fun k => k = p)) rfl (o := 0) (.slice none 0 0)) rfl (o := 1) (.int .i64 0)
      have hd2 := HD.out.clr0 (cells_set (cells_set HD.out.blk _) _) ht1
      exact ⟨rfl, _, _, kp', hd2, (fun x hx => HT.out.1 x (by
        rcases hx with h | h | h
        · exact .inl h
        · cases h
        · exact .inr (.inr h))), (fun h => by cases h), (HT.out.2.mono fun k _ h => .inl h).trans ht1 fun k hk h => .inl (.inl h)⟩
    · have hr' : D.act.1 = false := by simpa using hr
      have es : Hid (D.cut 0 = D.act) := by show _ = _; unfold Dk.cut; rw [if_neg hr]
      have HX : Hid (DOut w w1 p v0 v1 J D.act) := hd1
      clear hd1
      rw [hr']
      go_wp2_with fail
      go_ret
      rw [es.out, hr']
      exact ⟨rfl, HX.out⟩
  · go_enter Try.func145, Try.ntmps145
    go_wp2_with fail
    refine (walAct _ p _ _ J kp _ H.out).mono ?_
    rintro e w1 ⟨rfl, hd1⟩
    by_cases hr : D.act.1 = true
    · obtain ⟨u0, u1, kp', hD, hf, -, ht⟩ := hd1
      have es : Hid (D.cut 1 = (true, D.act.2.clr 1)) := by show _ = _; unfold Dk.cut; rw [if_pos hr]
      rw [if_pos hr] at hD
      have HT : Hid ((∀ x, footD p u0 u1 x → footD p v0 v1 x ∨ w.heap.size ≤ x) ∧ w.turned w1 (fun x => footD p v0 v1 x)) := ⟨hf, ht.mono fun k _ h => h.elim id fun h => by rw [hr] at h; cases h.1⟩
      have HD : Hid (DiskAt w1 p u0 u1 J kp' D.act.2) := hD
      obtain ⟨q0, q1, q2, q3, q4, q5, q6, qf⟩ := disk_cells hD.blk
      clear hD hf ht H
      rw [hr]
      go_wp2_with fail
      go_ret
      rw [es.out]
      have ht1 := turned_set (S := fun k => k = p) (turned_set (S := fun k => k = p) (World.turned.refl w1 (fun k => k = p)) rfl (o := 2) (.slice none 0 0)) rfl (o := 3) (.int .i64 0)
      have hd2 := HD.out.clr1 (cells_set (cells_set HD.out.blk _) _) ht1
      exact ⟨rfl, _, _, kp', hd2, (fun x hx => HT.out.1 x (by
        rcases hx with h | h | h
        · exact .inl h
        · exact .inr (.inl h)
        · cases h)), (fun h => by cases h), (HT.out.2.mono fun k _ h => .inl h).trans ht1 fun k hk h => .inl (.inl h)⟩
    · have hr' : D.act.1 = false := by simpa using hr
      have es : Hid (D.cut 1 = D.act) := by show _ = _; unfold Dk.cut; rw [if_neg hr]
      have HX : Hid (DOut w w1 p v0 v1 J D.act) := hd1
      clear hd1
      rw [hr']
      go_wp2_with fail
      go_ret
      rw [es.out, hr']
      exact ⟨rfl, HX.out⟩
end Go.Proofs.Ytcbbnmodjnnbeaa
