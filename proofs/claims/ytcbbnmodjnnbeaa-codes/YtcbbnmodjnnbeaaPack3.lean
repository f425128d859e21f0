/- The walk of the program's own test of records. -/
import Derived.Test.YtcbbnmodjnnbeaaPreds
import Derived.Test.YtcbbnmodjnnbeaaPack2
import Derived.Test.YtcbbnmodjnnbeaaRead
set_option linter.unusedSimpArgs false
set_option linter.unusedVariables false
namespace Go.Proofs.Ytcbbnmodjnnbeaa
open Go.RowKit

theorem same_own2 (r : Rec) : Rec.same r ⟨2, 0, 0, r.term, r.vote, 0, Cmd.zero, ⟨#[]⟩⟩ = ((r.kind == 2) && ((r.gen == 0) && ((r.index == 0) && ((r.many == 0) && (Cmd.same r.cmd Cmd.zero && noB r.data))))) := by
  have h : (r.data == (⟨#[]⟩ : ByteArray)) = noB r.data := by
    rw [beq_toListBytes, ← noB_isEmpty, ByteArray.toList_eq, ByteArray.toList_eq]; obtain ⟨⟨l⟩⟩ := r.data; cases l <;> rfl
  simp only [Rec.same, h, beq_self_eq_true, Bool.true_and]
theorem same_own3 (r : Rec) : Rec.same r ⟨3, 0, r.index, r.term, 0, 0, r.cmd, ⟨#[]⟩⟩ = ((r.kind == 3) && ((r.gen == 0) && ((r.vote == 0) && ((r.many == 0) && noB r.data)))) := by
  have h : (r.data == (⟨#[]⟩ : ByteArray)) = noB r.data := by
    rw [beq_toListBytes, ← noB_isEmpty, ByteArray.toList_eq, ByteArray.toList_eq]; obtain ⟨⟨l⟩⟩ := r.data; cases l <;> rfl
  have hc : Cmd.same r.cmd r.cmd = true := (Cmd.same_iff _ _).2 rfl
  simp only [Rec.same, h, hc, beq_self_eq_true, Bool.true_and]

set_option maxHeartbeats 1000000 in
theorem codecMayBe (r : Rec) (w : World) :
    Calls Try.prog 47 #[(.agg #[.int .i64 r.kind, .int .i64 r.gen, .int .i64 r.index, .int .i64 r.term, .int .i64 r.vote, .int .i64 r.many, .int .i64 r.cmd.kind, .string r.cmd.key, .string r.cmd.val, .string r.cmd.old, .int .i64 r.cmd.rev, .int .i64 r.cmd.ses, .int .i64 r.cmd.seq, .string r.data])] w fun e w' => e = .returned (.bool r.may) ∧ Below w.heap.size w w' := by
  have hd := noB_isEmpty r.data
  have heq0 : ∀ w, (binOp .eql 23 (.agg #[.int .i64 r.cmd.kind, .string r.cmd.key, .string r.cmd.val, .string r.cmd.old, .int .i64 r.cmd.rev, .int .i64 r.cmd.ses, .int .i64 r.cmd.seq]) (.agg #[.int .i64 0, .string ⟨#[]⟩, .string ⟨#[]⟩, .string ⟨#[]⟩, .int .i64 0, .int .i64 0, .int .i64 0])).run Try.prog w = .ok (.bool (Cmd.same r.cmd Cmd.zero)) w := fun w => eql_cmd r.cmd Cmd.zero w
  have heq2 : ∀ w, (binOp .eql 25 (.agg #[.int .i64 r.kind, .int .i64 r.gen, .int .i64 r.index, .int .i64 r.term, .int .i64 r.vote, .int .i64 r.many, .int .i64 r.cmd.kind, .string r.cmd.key, .string r.cmd.val, .string r.cmd.old, .int .i64 r.cmd.rev, .int .i64 r.cmd.ses, .int .i64 r.cmd.seq, .string r.data]) (.agg #[.int .i64 2, .int .i64 0, .int .i64 0, .int .i64 r.term, .int .i64 r.vote, .int .i64 0, .int .i64 0, .string ⟨#[]⟩, .string ⟨#[]⟩, .string ⟨#[]⟩, .int .i64 0, .int .i64 0, .int .i64 0, .string ⟨#[]⟩])).run Try.prog w = .ok (.bool (Rec.same r ⟨2, 0, 0, r.term, r.vote, 0, Cmd.zero, ⟨#[]⟩⟩)) w := fun w => eql_rec r ⟨2, 0, 0, r.term, r.vote, 0, Cmd.zero, ⟨#[]⟩⟩ w
  have heq3 : ∀ w, (binOp .eql 25 (.agg #[.int .i64 r.kind, .int .i64 r.gen, .int .i64 r.index, .int .i64 r.term, .int .i64 r.vote, .int .i64 r.many, .int .i64 r.cmd.kind, .string r.cmd.key, .string r.cmd.val, .string r.cmd.old, .int .i64 r.cmd.rev, .int .i64 r.cmd.ses, .int .i64 r.cmd.seq, .string r.data]) (.agg #[.int .i64 3, .int .i64 0, .int .i64 r.index, .int .i64 r.term, .int .i64 0, .int .i64 0, .int .i64 r.cmd.kind, .string r.cmd.key, .string r.cmd.val, .string r.cmd.old, .int .i64 r.cmd.rev, .int .i64 r.cmd.ses, .int .i64 r.cmd.seq, .string ⟨#[]⟩])).run Try.prog w = .ok (.bool (Rec.same r ⟨3, 0, r.index, r.term, 0, 0, r.cmd, ⟨#[]⟩⟩)) w := fun w => eql_rec r ⟨3, 0, r.index, r.term, 0, 0, r.cmd, ⟨#[]⟩⟩ w
  go_enter Try.func47, Try.ntmps47
  go_wp2_with (first | (go_at_call 79; refine (checkNumber _ _).mono ?_; rintro e w1 ⟨rfl, rfl⟩) | (go_at_call 71; refine (checkCommand r.cmd _).mono ?_; rintro e w1 ⟨rfl, hb1⟩; obtain ⟨hc1, hf1⟩ := bcell hb1))
  all_goals
    go_ret
    refine ⟨ret_bool ?_, ?_⟩
  all_goals go_light
  all_goals clear hd heq0 heq2 heq3
  all_goals first
    | exact (Below.refl _ _).alloc (Nat.le_refl _) _
    | exact (((Below.refl _ _).alloc (Nat.le_refl _) _).alloc (by simp) _).setCell (by simp) _
    | exact ((Below.refl _ _).alloc (Nat.le_refl _) _).alloc (by simp) _
    | exact (((Below.refl _ _).alloc (Nat.le_refl _) _).alloc (by simp) _).trans (hb1.mono (by simp; omega))
    | (simp_all [same_own2, same_own3, Rec.may]; done)
    | (simp_all [same_own2, same_own3, Rec.may]; intros; omega)
    | (simp_all [same_own2, same_own3, Rec.may]; intros; simp_all; done)
end Go.Proofs.Ytcbbnmodjnnbeaa
/- A record put behind a slice. -/
set_option linter.unusedSimpArgs false
set_option linter.unusedVariables false
namespace Go.Proofs.Ytcbbnmodjnnbeaa
open Go.RowKit

set_option maxHeartbeats 1000000 in
theorem appendRecord1 (v : Value) (l : List UInt8) (r : Rec) (w : World) (base : Nat) (hown : OwnB w base v l) (hbase : base ≤ w.heap.size) (hm : r.may = true) (hK : r.kind = 1) (hl : l.length ≤ 100000000) :
    Calls Try.prog 48 #[v, (.agg #[.int .i64 r.kind, .int .i64 r.gen, .int .i64 r.index, .int .i64 r.term, .int .i64 r.vote, .int .i64 r.many, .int .i64 r.cmd.kind, .string r.cmd.key, .string r.cmd.val, .string r.cmd.old, .int .i64 r.cmd.rev, .int .i64 r.cmd.ses, .int .i64 r.cmd.seq, .string r.data])] w fun e w' => ∃ v', e = .returned v' ∧ OwnB w' base v' (l ++ bodyL r) ∧ Grew w w' v v' := by
  have HL : Hid (bodyL r = [UInt8.ofNat 1] ++ (be 3 r.gen.toNat ++ be 3 r.index.toNat ++ be 3 r.term.toNat ++ be 3 r.many.toNat ++ (be 3 r.data.size ++ r.data.data.toList))) := by show _ = _; simp [bodyL, hK, be]
  obtain ⟨a1, a2, a3, a4, a5, a6, a7, a8, a9, -, -⟩ := rec_bd1 r hm hK
  have HE : Hid (([UInt8.ofNat 1].map byteV).toArray = #[.int .u8 r.kind]) := by
    show _ = _
    simp only [List.map_cons, List.map_nil, byteV_of 1 (by omega), hK]
    rfl
  have hk1 : (r.kind == 1) = true := by rw [hK]; rfl
  have hk2 : (r.kind == 2) = false := by rw [hK]; rfl
  have hk3 : (r.kind == 3) = false := by rw [hK]; rfl
  have hk0 : 0 ≤ r.kind := by omega
  have hk9 : r.kind ≤ 9 := by omega
  clear hK hm
  have H : Hold w (w.alloc (.cells #[.int .i64 r.kind, .int .i64 r.gen, .int .i64 r.index, .int .i64 r.term, .int .i64 r.vote, .int .i64 r.many, .int .i64 r.cmd.kind, .string r.cmd.key, .string r.cmd.val, .string r.cmd.old, .int .i64 r.cmd.rev, .int .i64 r.cmd.ses, .int .i64 r.cmd.seq, .string r.data] 25)) base w.heap.size #[.int .i64 r.kind, .int .i64 r.gen, .int .i64 r.index, .int .i64 r.term, .int .i64 r.vote, .int .i64 r.many, .int .i64 r.cmd.kind, .string r.cmd.key, .string r.cmd.val, .string r.cmd.old, .int .i64 r.cmd.rev, .int .i64 r.cmd.ses, .int .i64 r.cmd.seq, .string r.data] 25 v v l := Hold.start hown hbase
  clear hown
  go_enter Try.func48, Try.ntmps48
  go_wp2_with (first | (at_builtin; refine wpB_new rfl _ _ rfl base _ _ rfl (H.alloc _).own _ _ 1 rfl rfl (new_cells' (by simp) HE.out) (by simp only [List.length_append, List.length_cons, List.length_nil, be_length, len_data]; omega) (H.alloc _).hb ?_; intro v1 w1 ho1 hg1; have H := (H.alloc _).step ho1 hg1; have hk := H.cell; clear ho1 hg1) | (go_at_call 75; refine (appendNumberI _ _ _ _ base H.own H.hb (by omega) (by omega) (by simp only [List.length_append, List.length_cons, List.length_nil, be_length, len_data]; omega)).mono ?_; rintro e w1 ⟨v1, rfl, ho1, hg1⟩; have H := H.step ho1 hg1; have hk := H.cell; clear ho1 hg1) | (go_at_call 103; refine (appendBlock _ _ _ _ base H.own H.hb (by omega) (by simp only [List.length_append, List.length_cons, List.length_nil, be_length, len_data]; omega)).mono ?_; rintro e w1 ⟨v1, rfl, ho1, hg1⟩; have H := H.step ho1 hg1; have hk := H.cell; clear ho1 hg1) | (go_at_call 104; refine (appendCommand _ _ r.cmd _ base H.own H.hb hc (by simp only [List.length_append, List.length_cons, List.length_nil, be_length, len_data]; omega)).mono ?_; rintro e w1 ⟨v1, rfl, ho1, hg1⟩; have H := H.step ho1 hg1; have hk := H.cell; clear ho1 hg1))
  go_ret
  exact ⟨v1, rfl, by have h := H.own; rw [HL.out]; simpa only [List.append_assoc] using h, H.G⟩

set_option maxHeartbeats 1000000 in
theorem appendRecord2 (v : Value) (l : List UInt8) (r : Rec) (w : World) (base : Nat) (hown : OwnB w base v l) (hbase : base ≤ w.heap.size) (hm : r.may = true) (hK : r.kind = 2) (hl : l.length ≤ 100000000) :
    Calls Try.prog 48 #[v, (.agg #[.int .i64 r.kind, .int .i64 r.gen, .int .i64 r.index, .int .i64 r.term, .int .i64 r.vote, .int .i64 r.many, .int .i64 r.cmd.kind, .string r.cmd.key, .string r.cmd.val, .string r.cmd.old, .int .i64 r.cmd.rev, .int .i64 r.cmd.ses, .int .i64 r.cmd.seq, .string r.data])] w fun e w' => ∃ v', e = .returned v' ∧ OwnB w' base v' (l ++ bodyL r) ∧ Grew w w' v v' := by
  obtain ⟨a1, a2, a3, a4⟩ := rec_bd2 r hm hK
  obtain ⟨vn, hvn⟩ := Int.eq_ofNat_of_zero_le (show 0 ≤ r.vote + 1 by omega)
  have HE2 : Hid (([UInt8.ofNat vn].map byteV).toArray = #[.int .u8 (r.vote + 1)]) := by
    show _ = _
    simp only [List.map_cons, List.map_nil, byteV_of vn (by omega), hvn]
  have HL : Hid (bodyL r = [UInt8.ofNat 2] ++ (be 3 r.term.toNat ++ [UInt8.ofNat vn])) := by show _ = _; simp [bodyL, hK, be, hvn, Nat.mod_eq_of_lt (show vn < 256 by omega)]
  have hz : r.vote + 1 ≤ 5 := by omega
  have hz0 : 0 ≤ r.vote + 1 := by omega
  clear hvn
  have HE : Hid (([UInt8.ofNat 2].map byteV).toArray = #[.int .u8 r.kind]) := by
    show _ = _
    simp only [List.map_cons, List.map_nil, byteV_of 2 (by omega), hK]
    rfl
  have hk1 : (r.kind == 1) = false := by rw [hK]; rfl
  have hk2 : (r.kind == 2) = true := by rw [hK]; rfl
  have hk3 : (r.kind == 3) = false := by rw [hK]; rfl
  have hk0 : 0 ≤ r.kind := by omega
  have hk9 : r.kind ≤ 9 := by omega
  clear hK hm
  have H : Hold w (w.alloc (.cells #[.int .i64 r.kind, .int .i64 r.gen, .int .i64 r.index, .int .i64 r.term, .int .i64 r.vote, .int .i64 r.many, .int .i64 r.cmd.kind, .string r.cmd.key, .string r.cmd.val, .string r.cmd.old, .int .i64 r.cmd.rev, .int .i64 r.cmd.ses, .int .i64 r.cmd.seq, .string r.data] 25)) base w.heap.size #[.int .i64 r.kind, .int .i64 r.gen, .int .i64 r.index, .int .i64 r.term, .int .i64 r.vote, .int .i64 r.many, .int .i64 r.cmd.kind, .string r.cmd.key, .string r.cmd.val, .string r.cmd.old, .int .i64 r.cmd.rev, .int .i64 r.cmd.ses, .int .i64 r.cmd.seq, .string r.data] 25 v v l := Hold.start hown hbase
  clear hown
  go_enter Try.func48, Try.ntmps48
  go_wp2_with (first | (at_builtin; refine wpB_new rfl _ _ rfl base _ _ rfl (H.alloc _).own _ _ 1 rfl rfl (new_cells' (by simp) HE.out) (by simp only [List.length_append, List.length_cons, List.length_nil, be_length, len_data]; omega) (H.alloc _).hb ?_; intro v1 w1 ho1 hg1; have H := (H.alloc _).step ho1 hg1; have hk := H.cell; clear ho1 hg1) | (at_builtin; refine wpB_new rfl _ _ rfl base _ _ rfl (H.alloc _).own _ _ 1 rfl rfl (new_cells' (by simp) HE2.out) (by simp only [List.length_append, List.length_cons, List.length_nil, be_length, len_data]; omega) (H.alloc _).hb ?_; intro v1 w1 ho1 hg1; have H := (H.alloc _).step ho1 hg1; have hk := H.cell; clear ho1 hg1) | (go_at_call 75; refine (appendNumberI _ _ _ _ base H.own H.hb (by omega) (by omega) (by simp only [List.length_append, List.length_cons, List.length_nil, be_length, len_data]; omega)).mono ?_; rintro e w1 ⟨v1, rfl, ho1, hg1⟩; have H := H.step ho1 hg1; have hk := H.cell; clear ho1 hg1) | (go_at_call 103; refine (appendBlock _ _ _ _ base H.own H.hb (by omega) (by simp only [List.length_append, List.length_cons, List.length_nil, be_length, len_data]; omega)).mono ?_; rintro e w1 ⟨v1, rfl, ho1, hg1⟩; have H := H.step ho1 hg1; have hk := H.cell; clear ho1 hg1) | (go_at_call 104; refine (appendCommand _ _ r.cmd _ base H.own H.hb hc (by simp only [List.length_append, List.length_cons, List.length_nil, be_length, len_data]; omega)).mono ?_; rintro e w1 ⟨v1, rfl, ho1, hg1⟩; have H := H.step ho1 hg1; have hk := H.cell; clear ho1 hg1))
  go_ret
  exact ⟨v1, rfl, by have h := H.own; rw [HL.out]; simpa only [List.append_assoc] using h, H.G⟩

set_option maxHeartbeats 1000000 in
theorem appendRecord3 (v : Value) (l : List UInt8) (r : Rec) (w : World) (base : Nat) (hown : OwnB w base v l) (hbase : base ≤ w.heap.size) (hm : r.may = true) (hK : r.kind = 3) (hl : l.length ≤ 100000000) :
    Calls Try.prog 48 #[v, (.agg #[.int .i64 r.kind, .int .i64 r.gen, .int .i64 r.index, .int .i64 r.term, .int .i64 r.vote, .int .i64 r.many, .int .i64 r.cmd.kind, .string r.cmd.key, .string r.cmd.val, .string r.cmd.old, .int .i64 r.cmd.rev, .int .i64 r.cmd.ses, .int .i64 r.cmd.seq, .string r.data])] w fun e w' => ∃ v', e = .returned v' ∧ OwnB w' base v' (l ++ bodyL r) ∧ Grew w w' v v' := by
  have HL : Hid (bodyL r = [UInt8.ofNat 3] ++ (be 3 r.index.toNat ++ be 3 r.term.toNat ++ cmdL r.cmd)) := by show _ = _; simp [bodyL, hK, be]
  obtain ⟨a1, a2, a3, a4, a5⟩ := rec_bd3 r hm hK
  have hc := cmd_bd r.cmd a5
  clear a5
  have HE : Hid (([UInt8.ofNat 3].map byteV).toArray = #[.int .u8 r.kind]) := by
    show _ = _
    simp only [List.map_cons, List.map_nil, byteV_of 3 (by omega), hK]
    rfl
  have hk1 : (r.kind == 1) = false := by rw [hK]; rfl
  have hk2 : (r.kind == 2) = false := by rw [hK]; rfl
  have hk3 : (r.kind == 3) = true := by rw [hK]; rfl
  have hk0 : 0 ≤ r.kind := by omega
  have hk9 : r.kind ≤ 9 := by omega
  clear hK hm
  have H : Hold w (w.alloc (.cells #[.int .i64 r.kind, .int .i64 r.gen, .int .i64 r.index, .int .i64 r.term, .int .i64 r.vote, .int .i64 r.many, .int .i64 r.cmd.kind, .string r.cmd.key, .string r.cmd.val, .string r.cmd.old, .int .i64 r.cmd.rev, .int .i64 r.cmd.ses, .int .i64 r.cmd.seq, .string r.data] 25)) base w.heap.size #[.int .i64 r.kind, .int .i64 r.gen, .int .i64 r.index, .int .i64 r.term, .int .i64 r.vote, .int .i64 r.many, .int .i64 r.cmd.kind, .string r.cmd.key, .string r.cmd.val, .string r.cmd.old, .int .i64 r.cmd.rev, .int .i64 r.cmd.ses, .int .i64 r.cmd.seq, .string r.data] 25 v v l := Hold.start hown hbase
  clear hown
  go_enter Try.func48, Try.ntmps48
  go_wp2_with (first | (at_builtin; refine wpB_new rfl _ _ rfl base _ _ rfl (H.alloc _).own _ _ 1 rfl rfl (new_cells' (by simp) HE.out) (by simp only [List.length_append, List.length_cons, List.length_nil, be_length, len_data]; omega) (H.alloc _).hb ?_; intro v1 w1 ho1 hg1; have H := (H.alloc _).step ho1 hg1; have hk := H.cell; clear ho1 hg1) | (go_at_call 75; refine (appendNumberI _ _ _ _ base H.own H.hb (by omega) (by omega) (by simp only [List.length_append, List.length_cons, List.length_nil, be_length, len_data]; omega)).mono ?_; rintro e w1 ⟨v1, rfl, ho1, hg1⟩; have H := H.step ho1 hg1; have hk := H.cell; clear ho1 hg1) | (go_at_call 103; refine (appendBlock _ _ _ _ base H.own H.hb (by omega) (by simp only [List.length_append, List.length_cons, List.length_nil, be_length, len_data]; omega)).mono ?_; rintro e w1 ⟨v1, rfl, ho1, hg1⟩; have H := H.step ho1 hg1; have hk := H.cell; clear ho1 hg1) | (go_at_call 104; refine (appendCommand _ _ r.cmd _ base H.own H.hb hc (by simp only [List.length_append, List.length_cons, List.length_nil, be_length, len_data]; omega)).mono ?_; rintro e w1 ⟨v1, rfl, ho1, hg1⟩; have H := H.step ho1 hg1; have hk := H.cell; clear ho1 hg1))
  go_ret
  exact ⟨v1, rfl, by have h := H.own; rw [HL.out]; simpa only [List.append_assoc] using h, H.G⟩

theorem appendRecord (v : Value) (l : List UInt8) (r : Rec) (w : World) (base : Nat) (hown : OwnB w base v l) (hbase : base ≤ w.heap.size) (hm : r.may = true) (hl : l.length ≤ 100000000) :
    Calls Try.prog 48 #[v, (.agg #[.int .i64 r.kind, .int .i64 r.gen, .int .i64 r.index, .int .i64 r.term, .int .i64 r.vote, .int .i64 r.many, .int .i64 r.cmd.kind, .string r.cmd.key, .string r.cmd.val, .string r.cmd.old, .int .i64 r.cmd.rev, .int .i64 r.cmd.ses, .int .i64 r.cmd.seq, .string r.data])] w fun e w' => ∃ v', e = .returned v' ∧ OwnB w' base v' (l ++ bodyL r) ∧ Grew w w' v v' := by
  rcases rec_kind r hm with h | h | h
  · exact appendRecord1 v l r w base hown hbase hm h hl
  · exact appendRecord2 v l r w base hown hbase hm h hl
  · exact appendRecord3 v l r w base hown hbase hm h hl

/-- string(b) of what is owned. -/
theorem conv_own {w : World} {base : Nat} {v : Value} {l : List UInt8} (h : OwnB w base v l) : (convert 47 9 v).run Try.prog w = .ok (.string (B l)) w := by
  have hB : strOfNums (l.map fun c => (c.toNat : Int)) = B l := by
    unfold strOfNums B
    simp [Function.comp_def]
  rcases h.2 with ⟨rfl, hn⟩ | ⟨g, cap, cur, rfl, hg, hh, hn, hc, hcs, ht⟩
  · have : l = [] := List.eq_nil_of_length_eq_zero hn
    subst this
    exact run_convert_bytes_nil w 47 5 Try.underlying47 Try.underlying5 0 0 9 Try.underlying9
  · rw [← hB]
    refine run_convert_bytes_arg w 47 5 Try.underlying47 Try.underlying5 g 0 l.length cap _ (by simp) (fun i hi => ?_) 9 Try.underlying9
    have h1 : (l.map byteV)[i]? = cur[i]? := by
      rw [← ht, List.getElem?_take_of_lt (by omega), Array.getElem?_toList]
    simp only [World.cell?, hh, Nat.zero_add]
    rw [show (if (none : Option Nat).isSome then none else cur[i]?) = cur[i]? from rfl, ← h1]
    simp [List.getD, hi, byteV]

set_option maxHeartbeats 400000 in
theorem sealOf (s : ByteArray) (w : World) (hs : s.size ≤ maxLen) :
    Calls Try.prog 49 #[.string s] w fun e w' => e = .returned (.string (B (be 4 (By.sum s.data.toList)))) ∧ Below w.heap.size w w' := by
  have hc := conv4
  have hlt := By.sum_lt s.data.toList
  have HB : ∀ n, n < 4294967296 → Hid (B (be 4 n) = B [UInt8.ofNat (n / 16777216), UInt8.ofNat (n / 65536 % 256), UInt8.ofNat (n / 256 % 256), UInt8.ofNat (n % 256)]) := by
    intro n hn
    show _ = _
    simp [be, Nat.mod_eq_of_lt (show n / 16777216 < 256 by omega)]
  have HB := HB _ hlt
  go_enter Try.func49, Try.ntmps49
  go_wp2_with (go_at_call 12; refine (codecSum s _ hs).mono ?_; rintro e w1 ⟨rfl, rfl⟩)
  go_ret
  exact ⟨congrArg (fun b => Ending.returned (.string b)) HB.out.symm, (by repeat (first | exact Below.refl _ _ | assumption | refine Gr.ext ?_ _ | refine Gr.alloc ?_ _ | refine Gr.drew ?_ | (refine Gr.set ?_ (by first | (simp; done) | (simp; omega)) _)))⟩

theorem bodyL_len (r : Rec) (hm : r.may = true) : (bodyL r).length ≤ 1000100 := by
  rcases rec_kind r hm with h | h | h
  · have := (rec_bd1 r hm h).2.2.2.2.2.2.2.2.1
    simp [bodyL, h, be_length, len_data]; omega
  · simp [bodyL, h, be_length]
  · have hc := cmd_bd r.cmd (rec_bd3 r hm h).2.2.2.2
    have z1 := hc.key
    have z2 := hc.val
    have z3 := hc.old
    simp [bodyL, h, be_length, cmdL_length]; omega

set_option maxHeartbeats 1000000 in
theorem codecEncode (r : Rec) (w : World) (hm : r.may = true) :
    Calls Try.prog 14 #[(.agg #[.int .i64 r.kind, .int .i64 r.gen, .int .i64 r.index, .int .i64 r.term, .int .i64 r.vote, .int .i64 r.many, .int .i64 r.cmd.kind, .string r.cmd.key, .string r.cmd.val, .string r.cmd.old, .int .i64 r.cmd.rev, .int .i64 r.cmd.ses, .int .i64 r.cmd.seq, .string r.data])] w fun e w' => e = .returned (.tuple #[.string (B (encL r)), .int .i64 0]) ∧ Below w.heap.size w w' := by
  have hl := bodyL_len r hm
  have hE : encL r = bodyL r ++ be 4 (By.sum (bodyL r)) := rfl
  have HE : Hid (encL r = bodyL r ++ be 4 (By.sum (bodyL r))) := hE
  clear hE
  go_enter Try.func14, Try.ntmps14
  go_wp2_with (first | (go_at_call 47; refine (codecMayBe r _).mono ?_; rintro e w1 ⟨rfl, hb1⟩; obtain ⟨x1, rfl⟩ := Below.ext hb1; clear hb1) | (go_at_call 48; refine (appendRecord _ [] r _ _ (OwnB.nil _ 0) (Nat.zero_le _) hm (by simp)).mono ?_; rintro e w2 ⟨v2, rfl, ho2, hg2⟩; have hcv := conv_own ho2; simp only [List.nil_append] at hcv; obtain ⟨x2, rfl⟩ := Below.ext (hg2.below (by simp [Value.ownBlock])); clear ho2 hg2) | (go_at_call 49; refine (sealOf _ _ (by simp only [B_size]; unfold maxLen; omega)).mono ?_; rintro e w3 ⟨rfl, hb3⟩; obtain ⟨x3, rfl⟩ := Below.ext hb3; clear hb3))
  go_ret2
  exact ⟨ret2_str (by rw [HE.out]) rfl, (by repeat (first | exact Below.refl _ _ | assumption | refine Gr.ext ?_ _ | refine Gr.alloc ?_ _ | refine Gr.drew ?_ | (refine Gr.set ?_ (by first | (simp; done) | (simp; omega)) _)))⟩
set_option maxHeartbeats 400000 in
theorem codecEncode_no (r : Rec) (w : World) (hm : r.may = false) :
    Calls Try.prog 14 #[(.agg #[.int .i64 r.kind, .int .i64 r.gen, .int .i64 r.index, .int .i64 r.term, .int .i64 r.vote, .int .i64 r.many, .int .i64 r.cmd.kind, .string r.cmd.key, .string r.cmd.val, .string r.cmd.old, .int .i64 r.cmd.rev, .int .i64 r.cmd.ses, .int .i64 r.cmd.seq, .string r.data])] w fun e w' => e = .returned (.tuple #[.string (B []), .int .i64 2]) ∧ Below w.heap.size w w' := by
  go_enter Try.func14, Try.ntmps14
  go_wp2_with (go_at_call 47; refine (codecMayBe r _).mono ?_; rintro e w1 ⟨rfl, hb1⟩; obtain ⟨x1, rfl⟩ := Below.ext hb1; clear hb1)
  go_ret2
  exact ⟨rfl, (by repeat (first | exact Below.refl _ _ | assumption | refine Gr.ext ?_ _ | refine Gr.alloc ?_ _ | refine Gr.drew ?_ | (refine Gr.set ?_ (by first | (simp; done) | (simp; omega)) _)))⟩
end Go.Proofs.Ytcbbnmodjnnbeaa
