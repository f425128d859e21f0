/- Commands and records as values; what == on them comes to. -/
import Derived.Test.YtcbbnmodjnnbeaaSums
import Derived.Laws.StructEq
import Derived.Deep.Light
set_option linter.unusedSimpArgs false
set_option linter.unusedVariables false
namespace Go.Proofs.Ytcbbnmodjnnbeaa
open Go.RowKit

structure Cmd where
  kind : Int
  key : ByteArray
  val : ByteArray
  old : ByteArray
  rev : Int
  ses : Int
  seq : Int

structure Rec where
  kind : Int
  gen : Int
  index : Int
  term : Int
  vote : Int
  many : Int
  cmd : Cmd
  data : ByteArray

def Cmd.cells (c : Cmd) : List Value := [.int .i64 c.kind, .string c.key, .string c.val, .string c.old, .int .i64 c.rev, .int .i64 c.ses, .int .i64 c.seq]
def Cmd.v (c : Cmd) : Value := .agg #[.int .i64 c.kind, .string c.key, .string c.val, .string c.old, .int .i64 c.rev, .int .i64 c.ses, .int .i64 c.seq]
def Rec.v (r : Rec) : Value := .agg #[.int .i64 r.kind, .int .i64 r.gen, .int .i64 r.index, .int .i64 r.term, .int .i64 r.vote, .int .i64 r.many,
  .int .i64 r.cmd.kind, .string r.cmd.key, .string r.cmd.val, .string r.cmd.old, .int .i64 r.cmd.rev, .int .i64 r.cmd.ses, .int .i64 r.cmd.seq, .string r.data]
def Cmd.zero : Cmd := ⟨0, ByteArray.empty, ByteArray.empty, ByteArray.empty, 0, 0, 0⟩
def Rec.zero : Rec := ⟨0, 0, 0, 0, 0, 0, Cmd.zero, ByteArray.empty⟩

def Cmd.same (c d : Cmd) : Bool := (c.kind == d.kind) && ((c.key == d.key) && ((c.val == d.val) && ((c.old == d.old) && ((c.rev == d.rev) && ((c.ses == d.ses) && (c.seq == d.seq))))))
def Rec.same (r s : Rec) : Bool := (r.kind == s.kind) && ((r.gen == s.gen) && ((r.index == s.index) && ((r.term == s.term) && ((r.vote == s.vote) && ((r.many == s.many) && (Cmd.same r.cmd s.cmd && (r.data == s.data)))))))

theorem beq_bytes (a b : ByteArray) : (a == b) = true ↔ a = b := by
  rw [beq_toListBytes, ByteArray.toList_eq, ByteArray.toList_eq, beq_iff_eq]
  constructor
  · intro h; cases a; cases b; simp at h; subst h; rfl
  · rintro rfl; rfl
theorem Cmd.same_iff (c d : Cmd) : Cmd.same c d = true ↔ c = d := by
  cases c; cases d
  simp only [Cmd.same, Bool.and_eq_true, beq_iff_eq, beq_bytes, Cmd.mk.injEq]
theorem Rec.same_iff (r s : Rec) : Rec.same r s = true ↔ r = s := by
  cases r; cases s
  simp only [Rec.same, Bool.and_eq_true, beq_iff_eq, beq_bytes, Rec.mk.injEq, Cmd.same_iff]

theorem run_part_plain {P : Program} (t : TypeId) (cs : Array Value) (off : Nat) (v : Value) (w : World) (ha : (isAgg t).run P w = .ok false w) (h : cs[off]? = some v) : (part t cs off).run P w = .ok v w := by
  simp [part, ha, h]
theorem run_part_agg {P : Program} (t : TypeId) (cs : Array Value) (off n : Nat) (w : World) (ha : (isAgg t).run P w = .ok true w) (h : (sizeOf t).run P w = .ok n w) : (part t cs off).run P w = .ok (.agg (cs.extract off (off + n))) w := by
  simp [part, ha, h]
theorem eqFields_nil {P : Program} (w : World) (d : Nat) (xs ys : Array Value) : (Op.eqFields d xs ys []).run P w = .ok true w := by simp [Op.eqFields]
theorem eqFields_cons {P : Program} (w : World) (d : Nat) (xs ys : Array Value) (f : Field) (fs : List Field) (a b : Value) (r r' : Bool) (hn : f.name ≠ "_") (pa : (part f.type xs f.offset).run P w = .ok a w) (pb : (part f.type ys f.offset).run P w = .ok b w)
    (he : (Op.equalIn d f.type a b).run P w = .ok r w) (hr : (Op.eqFields d xs ys fs).run P w = .ok r' w) : (Op.eqFields d xs ys (f :: fs)).run P w = .ok (r && r') w := by
  simp only [Op.eqFields, Sem.run_bind, if_pos hn, pa, pb, he, Result.andThen_ok, Sem.run_ite, Sem.run_pure, hr]
  cases r <;> simp
theorem eqFields_int {w : World} {d : Nat} {xs ys : Array Value} {n : String} {off bo : Nat} {e : Bool} {tg pk : String} {fs : List Field} {a b : Int} {r' : Bool} (hn : n ≠ "_") (pa : xs[off]? = some (.int .i64 a)) (pb : ys[off]? = some (.int .i64 b))
    (hr : (Op.eqFields (d + 1) xs ys fs).run Try.prog w = .ok r' w) : (Op.eqFields (d + 1) xs ys (⟨n, 3, off, e, tg, pk, bo⟩ :: fs)).run Try.prog w = .ok ((a == b) && r') w :=
  eqFields_cons w (d + 1) xs ys _ fs _ _ _ _ hn (run_part_plain _ _ _ _ _ (by kernel_rfl) pa) (run_part_plain _ _ _ _ _ (by kernel_rfl) pb) (run_equalIn_int w d _ .i64 .i64 a b Try.underlying3) hr
theorem eqFields_str {w : World} {d : Nat} {xs ys : Array Value} {n : String} {off bo : Nat} {e : Bool} {tg pk : String} {fs : List Field} {a b : ByteArray} {r' : Bool} (hn : n ≠ "_") (pa : xs[off]? = some (.string a)) (pb : ys[off]? = some (.string b))
    (hr : (Op.eqFields (d + 1) xs ys fs).run Try.prog w = .ok r' w) : (Op.eqFields (d + 1) xs ys (⟨n, 9, off, e, tg, pk, bo⟩ :: fs)).run Try.prog w = .ok ((a == b) && r') w :=
  eqFields_cons w (d + 1) xs ys _ fs _ _ _ _ hn (run_part_plain _ _ _ _ _ (by kernel_rfl) pa) (run_part_plain _ _ _ _ _ (by kernel_rfl) pb) (by rw [run_equalIn_string w d _ a b Try.underlying9, beq_toListBytes]) hr

theorem eqIn_cmd (d : Nat) (a b : Cmd) (w : World) : (Op.equalIn (d + 2) 23 a.v b.v).run Try.prog w = .ok (Cmd.same a b) w := by
  unfold Cmd.v
  rw [run_equalIn_struct w (d + 1) _ _ _ (by kernel_rfl) (by kernel_rfl)]
  have hf : (Program.fieldsOf Try.prog 23).toList = [⟨ "Kind", 3, 0, false, "", "", 0⟩, ⟨ "Key", 9, 1, false, "", "", 8⟩, ⟨ "Value", 9, 2, false, "", "", 24⟩, ⟨ "Old", 9, 3, false, "", "", 40⟩,
    ⟨ "Rev", 3, 4, false, "", "", 56⟩, ⟨ "Session", 3, 5, false, "", "", 64⟩, ⟨ "Seq", 3, 6, false, "", "", 72⟩] := by kernel_rfl
  rw [hf]
  have h := eqFields_int (w := w) (d := d) (xs := #[.int .i64 a.kind, .string a.key, .string a.val, .string a.old, .int .i64 a.rev, .int .i64 a.ses, .int .i64 a.seq]) (ys := #[.int .i64 b.kind, .string b.key, .string b.val, .string b.old, .int .i64 b.rev, .int .i64 b.ses, .int .i64 b.seq])
    (n := "Kind") (off := 0) (bo := 0) (e := false) (tg := "") (pk := "") (by decide) rfl rfl (eqFields_str (n := "Key") (off := 1) (bo := 8) (e := false) (tg := "") (pk := "") (by decide) rfl rfl (eqFields_str (n := "Value") (off := 2) (bo := 24) (e := false) (tg := "") (pk := "") (by decide) rfl rfl
    (eqFields_str (n := "Old") (off := 3) (bo := 40) (e := false) (tg := "") (pk := "") (by decide) rfl rfl (eqFields_int (n := "Rev") (off := 4) (bo := 56) (e := false) (tg := "") (pk := "") (by decide) rfl rfl (eqFields_int (n := "Session") (off := 5) (bo := 64) (e := false) (tg := "") (pk := "") (by decide) rfl rfl
    (eqFields_int (n := "Seq") (off := 6) (bo := 72) (e := false) (tg := "") (pk := "") (by decide) rfl rfl (eqFields_nil _ _ _ _)))))))
  rw [h, Bool.and_true]
  rfl

theorem part_cmd (r : Rec) (w : World) : (part 23 #[.int .i64 r.kind, .int .i64 r.gen, .int .i64 r.index, .int .i64 r.term, .int .i64 r.vote, .int .i64 r.many, .int .i64 r.cmd.kind, .string r.cmd.key, .string r.cmd.val, .string r.cmd.old, .int .i64 r.cmd.rev, .int .i64 r.cmd.ses, .int .i64 r.cmd.seq, .string r.data] 6).run Try.prog w = .ok r.cmd.v w := by
  kernel_rfl

theorem eqIn_rec (d : Nat) (a b : Rec) (w : World) : (Op.equalIn (d + 3) 25 a.v b.v).run Try.prog w = .ok (Rec.same a b) w := by
  unfold Rec.v
  rw [run_equalIn_struct w (d + 2) _ _ _ (by kernel_rfl) (by kernel_rfl)]
  have hf : (Program.fieldsOf Try.prog 25).toList = [⟨ "Kind", 3, 0, false, "", "", 0⟩, ⟨ "Generation", 3, 1, false, "", "", 8⟩, ⟨ "Index", 3, 2, false, "", "", 16⟩, ⟨ "Term", 3, 3, false, "", "", 24⟩,
    ⟨ "Vote", 3, 4, false, "", "", 32⟩, ⟨ "Many", 3, 5, false, "", "", 40⟩, ⟨ "Command", 23, 6, false, "", "", 48⟩, ⟨ "Data", 9, 13, false, "", "", 128⟩] := by kernel_rfl
  rw [hf]
  have h := eqFields_int (w := w) (d := d + 1) (xs := #[.int .i64 a.kind, .int .i64 a.gen, .int .i64 a.index, .int .i64 a.term, .int .i64 a.vote, .int .i64 a.many, .int .i64 a.cmd.kind, .string a.cmd.key, .string a.cmd.val, .string a.cmd.old, .int .i64 a.cmd.rev, .int .i64 a.cmd.ses, .int .i64 a.cmd.seq, .string a.data])
    (ys := #[.int .i64 b.kind, .int .i64 b.gen, .int .i64 b.index, .int .i64 b.term, .int .i64 b.vote, .int .i64 b.many, .int .i64 b.cmd.kind, .string b.cmd.key, .string b.cmd.val, .string b.cmd.old, .int .i64 b.cmd.rev, .int .i64 b.cmd.ses, .int .i64 b.cmd.seq, .string b.data])
    (n := "Kind") (off := 0) (bo := 0) (e := false) (tg := "") (pk := "") (by decide) rfl rfl (eqFields_int (n := "Generation") (off := 1) (bo := 8) (e := false) (tg := "") (pk := "") (by decide) rfl rfl (eqFields_int (n := "Index") (off := 2) (bo := 16) (e := false) (tg := "") (pk := "") (by decide) rfl rfl
    (eqFields_int (n := "Term") (off := 3) (bo := 24) (e := false) (tg := "") (pk := "") (by decide) rfl rfl (eqFields_int (n := "Vote") (off := 4) (bo := 32) (e := false) (tg := "") (pk := "") (by decide) rfl rfl (eqFields_int (n := "Many") (off := 5) (bo := 40) (e := false) (tg := "") (pk := "") (by decide) rfl rfl
    (eqFields_cons w (d + 2) _ _ ⟨ "Command", 23, 6, false, "", "", 48⟩ _ a.cmd.v b.cmd.v _ _ (by decide) (part_cmd a w) (part_cmd b w) (eqIn_cmd d a.cmd b.cmd w)
    (eqFields_str (n := "Data") (off := 13) (bo := 128) (e := false) (tg := "") (pk := "") (by decide) rfl rfl (eqFields_nil _ _ _ _))))))))
  rw [h, Bool.and_true]
  rfl

theorem rec_at {w : World} {b : Nat} {r : Rec} {t : TypeId} {m : Nat × Nat} (h : w.heap[b]? = some (.cells #[.int .i64 r.kind, .int .i64 r.gen, .int .i64 r.index, .int .i64 r.term, .int .i64 r.vote, .int .i64 r.many, .int .i64 r.cmd.kind, .string r.cmd.key, .string r.cmd.val, .string r.cmd.old, .int .i64 r.cmd.rev, .int .i64 r.cmd.ses, .int .i64 r.cmd.seq, .string r.data] t m)) :
    w.cell? ⟨b, 0, none⟩ = some (.int .i64 r.kind) ∧ w.cell? ⟨b, 1, none⟩ = some (.int .i64 r.gen) ∧ w.cell? ⟨b, 2, none⟩ = some (.int .i64 r.index) ∧ w.cell? ⟨b, 3, none⟩ = some (.int .i64 r.term) ∧ w.cell? ⟨b, 4, none⟩ = some (.int .i64 r.vote) ∧ w.cell? ⟨b, 5, none⟩ = some (.int .i64 r.many) ∧
    w.cell? ⟨b, 6, none⟩ = some (.int .i64 r.cmd.kind) ∧ w.cell? ⟨b, 7, none⟩ = some (.string r.cmd.key) ∧ w.cell? ⟨b, 8, none⟩ = some (.string r.cmd.val) ∧ w.cell? ⟨b, 9, none⟩ = some (.string r.cmd.old) ∧ w.cell? ⟨b, 10, none⟩ = some (.int .i64 r.cmd.rev) ∧ w.cell? ⟨b, 11, none⟩ = some (.int .i64 r.cmd.ses) ∧ w.cell? ⟨b, 12, none⟩ = some (.int .i64 r.cmd.seq) ∧ w.cell? ⟨b, 13, none⟩ = some (.string r.data) := by
  refine ⟨?_, ?_, ?_, ?_, ?_, ?_, ?_, ?_, ?_, ?_, ?_, ?_, ?_, ?_⟩ <;> (simp only [World.cell?, h]; rfl)
theorem eql_cmd (a b : Cmd) (w : World) : (binOp .eql 23 a.v b.v).run Try.prog w = .ok (.bool (Cmd.same a b)) w := by
  unfold Cmd.v; rw [run_eql_struct]; have h := eqIn_cmd 9998 a b w; unfold Cmd.v at h; rw [h]; rfl
theorem eql_rec (a b : Rec) (w : World) : (binOp .eql 25 a.v b.v).run Try.prog w = .ok (.bool (Rec.same a b)) w := by
  unfold Rec.v; rw [run_eql_struct]; have h := eqIn_rec 9997 a b w; unfold Rec.v at h; rw [h]; rfl
end Go.Proofs.Ytcbbnmodjnnbeaa
/- Which numbers, texts, commands and records may be: the walks of the tests. -/
set_option linter.unusedSimpArgs false
set_option linter.unusedVariables false
namespace Go.Proofs.Ytcbbnmodjnnbeaa
open Go.RowKit

def numB (n : Int) : Bool := decide (0 ≤ n ∧ n ≤ 1000000)
def keyB (s : ByteArray) : Bool := decide (1 ≤ s.size ∧ s.size ≤ 8)
def valB (s : ByteArray) : Bool := decide (s.size ≤ 8)
def noB (s : ByteArray) : Bool := decide (s.size = 0)
def sesB (c : Cmd) : Bool := decide (0 ≤ c.ses) && decide (c.ses ≤ 8) && numB c.seq && ((c.ses == 0) == (c.seq == 0))
def Cmd.may (c : Cmd) : Bool :=
  if c.kind = 0 then Cmd.same c Cmd.zero
  else if c.kind = 1 then sesB c && keyB c.key && valB c.val && noB c.old && (c.rev == 0)
  else if c.kind = 2 then sesB c && keyB c.key && noB c.val && noB c.old && (c.rev == 0)
  else if c.kind = 3 then sesB c && keyB c.key && valB c.val && valB c.old && (c.rev == 0)
  else if c.kind = 4 then sesB c && noB c.key && noB c.val && noB c.old && numB c.rev
  else false
def Rec.may (r : Rec) : Bool :=
  if r.kind = 1 then decide (1 ≤ r.gen) && numB r.gen && numB r.index && numB r.term && numB r.many && decide ((r.data.size : Int) ≤ 1000000) && (r.vote == 0) && Cmd.same r.cmd Cmd.zero
  else if r.kind = 2 then (r.gen == 0) && (r.index == 0) && (r.many == 0) && noB r.data && Cmd.same r.cmd Cmd.zero && numB r.term && decide (-1 ≤ r.vote) && decide (r.vote < 5)
  else if r.kind = 3 then (r.gen == 0) && decide (1 ≤ r.index) && numB r.index && (r.many == 0) && noB r.data && (r.vote == 0) && numB r.term && Cmd.may r.cmd
  else false

theorem bcell {W w1 : World} (hb : Below W.heap.size W w1) : (∀ b o, b < W.heap.size → w1.cell? ⟨b, o, none⟩ = W.cell? ⟨b, o, none⟩) ∧ (∀ b o, b < W.heap.size → w1.frozen? ⟨b, o, none⟩ = W.frozen? ⟨b, o, none⟩) :=
  ⟨fun b o h => hb.cell (p := ⟨b, o, none⟩) h, fun b o h => hb.frozen (p := ⟨b, o, none⟩) h⟩
theorem ret_bool {a b : Bool} (h : a = b) : Ending.returned (.bool a) = .returned (.bool b) := by rw [h]
theorem noB_isEmpty (s : ByteArray) : s.toList.isEmpty = noB s := by
  rw [ByteArray.toList_eq]; obtain ⟨⟨l⟩⟩ := s; cases l <;> simp [noB, ByteArray.size]
theorem keyB_eq (s : ByteArray) : keyB s = (!noB s && valB s) := by
  unfold keyB noB valB; by_cases h1 : s.size = 0
  · simp [h1]
  · by_cases h2 : s.size ≤ 8
    · have h3 : 1 ≤ s.size := by omega
      simp [h1, h2, h3]
    · simp [h1, h2]

set_option maxHeartbeats 400000 in
theorem checkNumber (n : Int) (w : World) :
    Calls Try.prog 79 #[.int .i64 n] w fun e w' => e = .returned (.bool (numB n)) ∧ w' = w := by
  go_enter Try.func79, Try.ntmps79
  go_wp2
  all_goals
    go_ret
    exact ⟨ret_bool (by unfold numB; rw [Bool.eq_iff_iff]; simp; omega), rfl⟩
set_option maxHeartbeats 400000 in
theorem refMay (n l : Int) (w : World) :
    Calls Try.prog 105 #[.int .i64 n, .int .i64 l] w fun e w' => e = .returned (.bool (decide (l ≤ n ∧ n ≤ 1000000))) ∧ w' = w := by
  go_enter Try.func105, Try.ntmps105
  go_wp2
  all_goals
    go_ret
    exact ⟨ret_bool (by rw [Bool.eq_iff_iff]; simp; omega), rfl⟩
set_option maxHeartbeats 400000 in
theorem checkValue (s : ByteArray) (w : World) :
    Calls Try.prog 119 #[.string s] w fun e w' => e = .returned (.bool (valB s)) ∧ w' = w := by
  go_enter Try.func119, Try.ntmps119
  go_wp2
  go_ret
  exact ⟨ret_bool (by unfold valB; rw [Bool.eq_iff_iff]; simp; omega), rfl⟩
set_option maxHeartbeats 400000 in
theorem refValue (s : ByteArray) (w : World) :
    Calls Try.prog 147 #[.string s] w fun e w' => e = .returned (.bool (valB s)) ∧ w' = w := by
  go_enter Try.func147, Try.ntmps147
  go_wp2
  go_ret
  exact ⟨ret_bool (by unfold valB; rw [Bool.eq_iff_iff]; simp; omega), rfl⟩
set_option maxHeartbeats 400000 in
theorem refKey (s : ByteArray) (w : World) :
    Calls Try.prog 146 #[.string s] w fun e w' => e = .returned (.bool (keyB s)) ∧ w' = w := by
  go_enter Try.func146, Try.ntmps146
  go_wp2
  all_goals
    go_ret
    exact ⟨ret_bool (by unfold keyB; rw [Bool.eq_iff_iff]; simp; omega), rfl⟩
set_option maxHeartbeats 400000 in
theorem checkKey (s : ByteArray) (w : World) :
    Calls Try.prog 118 #[.string s] w fun e w' => e = .returned (.bool (keyB s)) ∧ w' = w := by
  have hk := noB_isEmpty s
  go_enter Try.func118, Try.ntmps118
  cases hn : noB s
  all_goals
    rw [hn] at hk
    go_wp2_with (go_at_call 119; refine (checkValue s _).mono ?_; rintro e w1 ⟨rfl, rfl⟩)
    go_ret
    exact ⟨ret_bool (by simp [keyB_eq, hn]), rfl⟩
set_option maxHeartbeats 400000 in
theorem checkSession (c : Cmd) (w : World) :
    Calls Try.prog 117 #[(.agg #[.int .i64 c.kind, .string c.key, .string c.val, .string c.old, .int .i64 c.rev, .int .i64 c.ses, .int .i64 c.seq])] w fun e w' => e = .returned (.bool (sesB c)) ∧ Below w.heap.size w w' := by
  go_enter Try.func117, Try.ntmps117
  go_wp2
  all_goals
    go_ret
    exact ⟨ret_bool (by go_light; simp_all [sesB, numB] <;> (intros; omega)), (Below.refl _ _).alloc (Nat.le_refl _) _⟩
set_option maxHeartbeats 1000000 in
theorem checkCommand (c : Cmd) (w : World) :
    Calls Try.prog 71 #[(.agg #[.int .i64 c.kind, .string c.key, .string c.val, .string c.old, .int .i64 c.rev, .int .i64 c.ses, .int .i64 c.seq])] w fun e w' => e = .returned (.bool c.may) ∧ Below w.heap.size w w' := by
  have hk := noB_isEmpty c.key
  have hv := noB_isEmpty c.val
  have ho := noB_isEmpty c.old
  have heq : ∀ w, (binOp .eql 23 (.agg #[.int .i64 c.kind, .string c.key, .string c.val, .string c.old, .int .i64 c.rev, .int .i64 c.ses, .int .i64 c.seq]) (.agg #[.int .i64 0, .string ⟨#[]⟩, .string ⟨#[]⟩, .string ⟨#[]⟩, .int .i64 0, .int .i64 0, .int .i64 0])).run Try.prog w = .ok (.bool (Cmd.same c Cmd.zero)) w := fun w => eql_cmd c Cmd.zero w
  go_enter Try.func71, Try.ntmps71
  go_wp2_with (first | (go_at_call 119; refine (checkValue _ _).mono ?_; rintro e w1 ⟨rfl, rfl⟩) | (go_at_call 118; refine (checkKey _ _).mono ?_; rintro e w1 ⟨rfl, rfl⟩) | (go_at_call 79; refine (checkNumber _ _).mono ?_; rintro e w1 ⟨rfl, rfl⟩) | (go_at_call 117; refine (checkSession c _).mono ?_; rintro e w1 ⟨rfl, hb1⟩; obtain ⟨hc1, hf1⟩ := bcell hb1))
  all_goals
    go_ret
    refine ⟨ret_bool ?_, ?_⟩
  all_goals go_light
  all_goals first
    | exact (Below.refl _ _).alloc (Nat.le_refl _) _
    | exact ((Below.refl _ _).alloc (Nat.le_refl _) _).trans (hb1.mono (by simp))
    | (clear hk hv ho heq; simp_all [Cmd.may]; done)
theorem same_zero (c : Cmd) : Cmd.same c Cmd.zero = ((c.kind == 0) && (noB c.key && (noB c.val && (noB c.old && ((c.rev == 0) && ((c.ses == 0) && (c.seq == 0))))))) := by
  have h : ∀ s : ByteArray, (s == ByteArray.empty) = noB s := by
    intro s; rw [beq_toListBytes, ← noB_isEmpty, ByteArray.toList_eq, ByteArray.toList_eq]; obtain ⟨⟨l⟩⟩ := s; cases l <;> rfl
  simp only [Cmd.same, Cmd.zero, h]

theorem may_of_not_ses (c : Cmd) (h : sesB c = false) : c.may = false := by
  unfold Cmd.may
  rw [same_zero]
  by_cases h0 : c.kind = 0
  · rw [if_pos h0]
    by_cases h1 : c.ses = 0
    · by_cases h2 : c.seq = 0
      · simp [sesB, numB, h1, h2] at h
      · simp [h2]
    · simp [h1]
  · simp [h, h0]
theorem ses_parts (c : Cmd) : sesB c = true ↔ 0 ≤ c.ses ∧ c.ses ≤ 8 ∧ 0 ≤ c.seq ∧ c.seq ≤ 1000000 ∧ ((c.ses == 0) = (c.seq == 0)) := by
  simp [sesB, numB, and_assoc]
end Go.Proofs.Ytcbbnmodjnnbeaa
