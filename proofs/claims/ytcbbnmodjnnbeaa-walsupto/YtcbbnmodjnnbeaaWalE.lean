/- The program's records: which are Bases; which may count; records as bytes. -/
import Derived.Test.YtcbbnmodjnnbeaaWalB
import Derived.Test.YtcbbnmodjnnbeaaSameRec
import Derived.Test.YtcbbnmodjnnbeaaClone
import Derived.Test.YtcbbnmodjnnbeaaScanB
import Derived.Test.YtcbbnmodjnnbeaaLite
import Derived.Deep.DeepMust
set_option linter.unusedSimpArgs false
set_option linter.unusedVariables false
namespace Go.Proofs.Ytcbbnmodjnnbeaa
open Go.RowKit

set_option maxHeartbeats 400000 in
theorem walIsBase (r : Rec) (w : World) : Calls Try.prog 95 #[(.agg #[.int .i64 r.kind, .int .i64 r.gen, .int .i64 r.index, .int .i64 r.term, .int .i64 r.vote, .int .i64 r.many, .int .i64 r.cmd.kind, .string r.cmd.key, .string r.cmd.val, .string r.cmd.old, .int .i64 r.cmd.rev, .int .i64 r.cmd.ses, .int .i64 r.cmd.seq, .string r.data])] w fun e w' => e = .returned (.bool (r.kind == 1)) ∧ Below w.heap.size w w' := by
  go_enter Try.func95, Try.ntmps95
  go_wp2_with fail
  go_ret
  exact ⟨rfl, (by repeat (first | exact Below.refl _ _ | assumption | with_reducible refine below_drewN ?_ _ | refine Gr.ext ?_ _ | refine Gr.alloc ?_ _ | refine Gr.drew ?_ | (refine Gr.set ?_ (by first | (simp; done) | (simp; omega)) _)))⟩
set_option maxRecDepth 100000 in
set_option maxHeartbeats 1000000 in
theorem walIndexBase (a : Option Addr) (cap : Nat) (rs : List Rec) (fv : Value) (w : World) (hn : rs.length ≤ 100000000000) (hr : w.reads 14 (.slice a rs.length cap) (rs.map Rec.cells)) (hf : fv = .func (.func 95) #[] #[]) :
    Calls Try.prog 141 #[.slice a rs.length cap, fv] w fun e w' => ∃ i : Int, e = .returned (.int .i64 i) ∧ (decide (i ≥ 0) = rs.any fun x => x.kind == 1) ∧ Below w.heap.size w w' := by
  subst hf
  go_enter Try.func141, Try.ntmps141
  go_wp2_with fail
  go_loopw [8] (fun iv wr => ∃ k : Nat, k ≤ rs.length ∧ iv = .int .i64 k ∧ (rs.take k).any (fun x => x.kind == 1) = false ∧ Hid (Below w.heap.size w wr)) (fun iv _ => rs.length - (intOf iv).toNat)
  case atStart => exact ⟨0, Nat.zero_le _, rfl, by simp, Below.refl _ _⟩
  case round =>
    obtain ⟨k, hk, rfl, hno, HB⟩ := hrel
    have HNO : Hid ((rs.take k).any (fun x => x.kind == 1) = false) := hno
    clear hno
    by_cases hlt : k < rs.length
    · have hrr : wr.reads 14 (.slice a rs.length cap) (rs.map Rec.cells) := hr.keep fun k hk => HB.out.block k (reads_lt hr hk)
      obtain ⟨g1, o1, rfl, hg1, hr1⟩ := Rec.at_reads hrr hlt
      have HSN : Hid (rs.take (k + 1) = rs.take k ++ [rs[k]]) := by show _ = _; rw [List.take_succ_eq_append_getElem hlt]
      have HIN : Hid (rs[k] ∈ rs) := List.getElem_mem hlt
      generalize rs[k] = c at hr1 HSN HIN
      obtain ⟨x0, x1, x2, x3, x4, x5, x6, x7, x8, x9, x10, x11, x12, x13⟩ := Rec.off hr1
      clear hr1 hr hrr
      go_wp2_with fail
      refine (walIsBase c _).mono ?_
      rintro e w1 ⟨rfl, hb1⟩
      have HB1 : Hid (Below w.heap.size w w1) := HB.out.trans (hb1.mono HB.out.size)
      clear hb1 x0 x1 x2 x3 x4 x5 x6 x7 x8 x9 x10 x11 x12 x13
      cases hc : (c.kind == 1)
      · go_wp2_with fail
        refine ⟨⟨k + 1, by omega, val_int (by omega), ?_, HB1⟩, by simp [intOf]; omega⟩
        rw [HSN.out, List.any_append, HNO.out]
        simp [hc]
      · go_wp2_with fail
        go_ret
        refine ⟨(k : Int), rfl, ?_, HB1.out⟩
        have : rs.any (fun x => x.kind == 1) = true := List.any_eq_true.2 ⟨c, HIN.out, hc⟩
        rw [this]
        simp
    · have hkk : k = rs.length := by omega
      subst hkk
      go_wp2_with fail
      go_ret
      refine ⟨-1, rfl, ?_, HB.out⟩
      have := HNO.out
      rw [List.take_length] at this
      rw [this]
      decide
set_option maxRecDepth 100000 in
set_option maxHeartbeats 1000000 in
theorem walContainsBase (a : Option Addr) (cap : Nat) (rs : List Rec) (w : World) (hn : rs.length ≤ 100000000000) (hr : w.reads 14 (.slice a rs.length cap) (rs.map Rec.cells)) :
    Calls Try.prog 94 #[.slice a rs.length cap, .func (.func 95) #[] #[]] w fun e w' => e = .returned (.bool (rs.any fun x => x.kind == 1)) ∧ Below w.heap.size w w' := by
  have CT := walIndexBase a cap rs (.func (.func 95) #[] #[]) w hn hr rfl
  have HCT : Hid (Calls Try.prog 141 #[.slice a rs.length cap, .func (.func 95) #[] #[]] w fun e w' => ∃ i : Int, e = .returned (.int .i64 i) ∧ (decide (i ≥ 0) = rs.any fun x => x.kind == 1) ∧ Below w.heap.size w w') := CT
  clear CT hr
  go_enter Try.func94, Try.ntmps94
  go_wp2_with fail
  refine Calls.mono HCT.out ?_
  rintro e w1 ⟨i, rfl, hi, hb1⟩
  have HI : Hid (decide (i ≥ 0) = rs.any fun x => x.kind == 1) := hi
  clear hi
  go_wp2_with fail
  go_ret
  exact ⟨by rw [HI.out]; rfl, hb1⟩
theorem reads_tail {w : World} {sz g o n cap cap' : Nat} {c : List Value} {cs : List (List Value)} (h : w.reads sz (.slice (some ⟨g, o, none⟩) n cap) (c :: cs)) : w.reads sz (.slice (some ⟨g, o + sz, none⟩) cs.length cap') cs := by
  rcases h with ⟨h1, _⟩ | ⟨g', off, c', hv, hg, hc⟩
  · cases h1
  · injection hv with h1 h2 h3
    injection h1 with h1
    injection h1 with h1 h4
    subst h1 h4
    refine .inr ⟨g, o + sz, cap', rfl, hg, fun i x hi => ?_⟩
    have := hc (i + 1) x (by simpa using hi)
    rw [show o + sz + i * sz = o + (i + 1) * sz by rw [Nat.succ_mul]; omega]
    exact this
theorem reads_cap {w : World} {sz : Nat} {a : Option Addr} {n cap : Nat} {cs : List (List Value)} (h : w.reads sz (.slice a n cap) cs) : n = cs.length := by
  rcases h with ⟨h1, rfl⟩ | ⟨g', off, c', hv, hg, hc⟩
  · injection h1
  · injection hv
set_option maxRecDepth 100000 in
set_option maxHeartbeats 1000000 in
theorem walMayCount (a : Option Addr) (cap : Nat) (rs : List Rec) (w : World) (hn : rs.length ≤ 100000000000) (hcap : rs.length ≤ cap) (hcm : cap ≤ maxLen) (hr : w.reads 14 (.slice a rs.length cap) (rs.map Rec.cells)) :
    Calls Try.prog 138 #[.slice a rs.length cap] w fun e w' => e = .returned (.bool (countsB rs)) ∧ Below w.heap.size w w' := by
  unfold maxLen at hcm
  cases rs with
  | nil =>
    go_enter Try.func138, Try.ntmps138
    go_wp2_with fail
    go_ret
    exact ⟨rfl, (by repeat (first | exact Below.refl _ _ | assumption | with_reducible refine below_drewN ?_ _ | refine Gr.ext ?_ _ | refine Gr.alloc ?_ _ | refine Gr.drew ?_ | (refine Gr.set ?_ (by first | (simp; done) | (simp; omega)) _)))⟩
  | cons r rs =>
    have hr0 := hr
    obtain ⟨g1, o1, rfl, hg1, hr1⟩ := Rec.at_reads hr (k := 0) (by simp)
    rw [Nat.zero_mul, Nat.add_zero] at hr1
    have hr1' : w.rangeAt g1 o1 r.cells := hr1
    obtain ⟨x0, x1, x2, x3, x4, x5, x6, x7, x8, x9, x10, x11, x12, x13⟩ := Rec.off hr1'
    have HT : Hid (∀ c', w.reads 14 (.slice (some ⟨g1, o1 + 14, none⟩) rs.length c') (rs.map Rec.cells)) := fun c' => by have := reads_tail (cap' := c') hr0; rw [List.length_map] at this; exact this
    obtain ⟨n, hn0⟩ : ∃ n, n = rs.length := ⟨_, rfl⟩
    have HC : Hid (countsB (r :: rs) = ((r.kind == 1) && (!rs.any fun x => x.kind == 1) && decide (r.many ≤ (n : Int)))) := by show _ = _; rw [hn0]; rfl
    rw [List.length_cons, ← hn0] at hn hcap ⊢
    have HN : Hid (n = rs.length) := hn0
    have hn1 : 0 < n + 1 := Nat.succ_pos _
    have hn2 : (0 : Int) < (n : Int) + 1 := by omega
    have hn3 : ((n : Int) + 1 == 0) = false := beq_eq_false_iff_ne.2 (by omega)
    clear hr hr0 hr1 hr1' hn0
    have key : ∀ (V : Value) (_ : V = if cap = 1 then .slice (some ⟨g1, o1, none⟩) n 0 else .slice (some ⟨g1, o1 + 14, none⟩) n (cap - 1)), ∃ a' c', V = .slice a' rs.length c' ∧ w.reads 14 (.slice a' rs.length c') (rs.map Rec.cells) := by
      intro V hV
      rw [HN.out] at hV
      by_cases h1 : cap = 1
      · rw [if_pos h1] at hV
        have h0 : rs = [] := List.eq_nil_of_length_eq_zero (by have := HN.out; omega)
        subst h0
        exact ⟨_, _, hV, .inr ⟨g1, o1, 0, rfl, hg1, fun i c hi => by simp at hi⟩⟩
      · rw [if_neg h1] at hV
        exact ⟨_, _, hV, HT.out _⟩
    have KEY : Hid (∀ (V : Value) (_ : V = if cap = 1 then .slice (some ⟨g1, o1, none⟩) n 0 else .slice (some ⟨g1, o1 + 14, none⟩) n (cap - 1)), ∃ a' c', V = .slice a' rs.length c' ∧ w.reads 14 (.slice a' rs.length c') (rs.map Rec.cells)) := key
    clear key
    cases hk : (r.kind == 1)
    · have hcb : countsB (r :: rs) = false := by rw [HC.out, hk]; rfl
      have HCB : Hid (countsB (r :: rs) = false) := hcb
      clear hcb KEY
      go_enter Try.func138, Try.ntmps138
      go_wp2_with (go_at_call 95; refine (walIsBase r _).mono ?_; rintro e w1 ⟨rfl, hb1⟩; obtain ⟨y1, rfl⟩ := Below.ext hb1; clear hb1)
      go_ret
      rw [HCB.out]
      exact ⟨rfl, (by repeat (first | exact Below.refl _ _ | assumption | with_reducible refine below_drewN ?_ _ | refine Gr.ext ?_ _ | refine Gr.alloc ?_ _ | refine Gr.drew ?_ | (refine Gr.set ?_ (by first | (simp; done) | (simp; omega)) _)))⟩
    · have HCB : Hid (countsB (r :: rs) = ((!rs.any fun x => x.kind == 1) && decide (r.many ≤ (n : Int)))) := by show _ = _; rw [HC.out, hk, Bool.true_and]
      have HN1 : Hid (rs.length ≤ 100000000000) := by show _ ≤ _; have := HN.out; omega
      have CT : Hid (∀ (V : Value) (_ : V = if cap = 1 then .slice (some ⟨g1, o1, none⟩) n 0 else .slice (some ⟨g1, o1 + 14, none⟩) n (cap - 1)) (W : World), Below w.heap.size w W → Calls Try.prog 94 #[V, .func (.func 95) #[] #[]] W fun e w' => e = .returned (.bool (rs.any fun x => x.kind == 1)) ∧ Below W.heap.size W w') := by
        intro V hV W hW
        obtain ⟨a', c', rfl, hrd⟩ := KEY.out V hV
        exact walContainsBase a' c' rs W HN1.out (readsGrL hrd hW)
      clear KEY HT HN1
      by_cases h1 : cap = 1
      all_goals
        go_enter Try.func138, Try.ntmps138
        go_wp2_with (go_at_call 95; refine (walIsBase r _).mono ?_; rintro e w1 ⟨rfl, hb1⟩; obtain ⟨y1, rfl⟩ := Below.ext hb1; clear hb1)
        refine (CT.out _ (by simp [h1]) _ (by repeat (first | exact Below.refl _ _ | assumption | with_reducible refine below_drewN ?_ _ | refine Gr.ext ?_ _ | refine Gr.alloc ?_ _ | refine Gr.drew ?_ | (refine Gr.set ?_ (by first | (simp; done) | (simp; omega)) _)))).mono ?_
        rintro e w2 ⟨rfl, hb2⟩
        obtain ⟨y2, rfl⟩ := Below.ext hb2
        clear hb2 CT
        cases hq : (rs.any fun x => x.kind == 1)
        · go_wp2_with fail
          go_ret
          rw [HCB.out, hq]
          exact ⟨rfl, (by repeat (first | exact Below.refl _ _ | assumption | with_reducible refine below_drewN ?_ _ | refine Gr.ext ?_ _ | refine Gr.alloc ?_ _ | refine Gr.drew ?_ | (refine Gr.set ?_ (by first | (simp; done) | (simp; omega)) _)))⟩
        · go_wp2_with fail
          go_ret
          rw [HCB.out, hq]
          exact ⟨rfl, (by repeat (first | exact Below.refl _ _ | assumption | with_reducible refine below_drewN ?_ _ | refine Gr.ext ?_ _ | refine Gr.alloc ?_ _ | refine Gr.drew ?_ | (refine Gr.set ?_ (by first | (simp; done) | (simp; omega)) _)))⟩
end Go.Proofs.Ytcbbnmodjnnbeaa
/- The program's records as bytes. -/
set_option linter.unusedSimpArgs false
set_option linter.unusedVariables false
namespace Go.Proofs.Ytcbbnmodjnnbeaa
open Go.RowKit

theorem jrnL_take_le (rs : List Rec) (k : Nat) : (jrnL (rs.take k)).length ≤ (jrnL rs).length := by
  have := congrArg List.length (jrnL_append (rs.take k) (rs.drop k))
  rw [List.take_append_drop, List.length_append] at this
  omega
set_option maxRecDepth 100000 in
set_option maxHeartbeats 2000000 in
theorem walBytes (a : Option Addr) (cap : Nat) (rs : List Rec) (w : World) (hn : rs.length ≤ 100000000000) (hl : (jrnL rs).length ≤ 100000000) (hr : rs ≠ [] → w.reads 14 (.slice a rs.length cap) (rs.map Rec.cells)) :
    Calls Try.prog 93 #[.slice a rs.length cap] w fun e w' => ∃ v er, e = .returned (.tuple #[v, .int .i64 er]) ∧ Below w.heap.size w w' ∧ (((∀ r ∈ rs, r.may = true) ∧ er = 0 ∧ OwnB w' w.heap.size v (jrnL rs)) ∨ ((∃ r ∈ rs, r.may = false) ∧ er = 2)) := by
  go_enter Try.func93, Try.ntmps93
  go_wp2_with fail
  go_loopw [4, 11] (fun bv iv wr => ∃ k : Nat, k ≤ rs.length ∧ iv = .int .i64 k ∧ Hid (∀ r ∈ rs.take k, r.may = true) ∧ OwnB wr w.heap.size bv (jrnL (rs.take k)) ∧ Below w.heap.size w wr) (fun _ iv _ => rs.length - (intOf iv).toNat)
  case atStart => exact ⟨0, Nat.zero_le _, rfl, (fun r h => by simp at h), OwnB.nil _ _, Below.refl _ _⟩
  case round =>
    obtain ⟨k, hk, rfl, HM, ho, hb⟩ := hrel
    by_cases hlt : k < rs.length
    · have hne : rs ≠ [] := fun e => by rw [e] at hlt; simp at hlt
      have hrr : wr.reads 14 (.slice a rs.length cap) (rs.map Rec.cells) := (hr hne).keep fun k hk => hb.block k (reads_lt (hr hne) hk)
      obtain ⟨g1, o1, rfl, hg1, hr1⟩ := Rec.at_reads hrr hlt
      have HSN : Hid (rs.take (k + 1) = rs.take k ++ [rs[k]]) := by show _ = _; rw [List.take_succ_eq_append_getElem hlt]
      have HIN : Hid (rs[k] ∈ rs) := List.getElem_mem hlt
      have hle := jrnL_take_le rs k
      generalize rs[k] = c at hr1 HSN HIN
      obtain ⟨x0, x1, x2, x3, x4, x5, x6, x7, x8, x9, x10, x11, x12, x13⟩ := Rec.off hr1
      have HL : Hid ((jrnL (rs.take k)).length ≤ 100000000) := by show _ ≤ _; omega
      clear hr1 hr hrr hle
      have hbs := hb.size
      cases hm : c.may
      · go_wp2_with (go_at_call 14; refine (codecEncode_no c _ hm).mono ?_; rintro e w1 ⟨rfl, hb1⟩; obtain ⟨y1, rfl⟩ := Below.ext hb1; clear hb1)
        go_ret2
        exact ⟨_, 2, rfl, Gr.ext (Gr.alloc hb _) _, .inr ⟨⟨c, HIN.out, hm⟩, rfl⟩⟩
      · have HSZ : Hid ((B (encL c)).size < 16777216) := by show _ < _; rw [B_size]; exact encL_lt c hm
        have HMK : Hid (c.may = true) := hm
        have ho2 : ∀ (o : Obj) (y : Grow), OwnB ((wr.alloc o).ext y) w.heap.size u4 (jrnL (rs.take k)) := fun o y => (ho.alloc o).ext y
        have hb2 : ∀ (o : Obj) (y : Grow), Below w.heap.size w ((wr.alloc o).ext y) := fun o y => Gr.ext (Gr.alloc hb o) y
        have hge : ∀ k, u4.ownBlock = some k → w.heap.size ≤ k := fun k hk => (ho.lt hk).1
        clear hm ho hb
        go_wp2_with (go_at_call 14; refine (codecEncode c _ HMK.out).mono ?_; rintro e w1 ⟨rfl, hb1⟩; obtain ⟨y1, rfl⟩ := Below.ext hb1; clear hb1)
        refine (appendBlock _ _ _ _ w.heap.size (ho2 _ _) (by simp [go_sem]; omega) HSZ.out (by have := HL.out; omega)).mono ?_
        rintro e w2 ⟨v2, rfl, ho3, hg3⟩
        have hb3 : Below w.heap.size w w2 := Below.grown (hb2 _ _) hg3.g (by simp [go_sem]; omega) hge
        clear ho2 hb2
        go_wp2_with fail
        refine ⟨⟨k + 1, by omega, val_int (by omega), ?_, ?_, hb3⟩, by simp [intOf]; omega⟩
        · show ∀ r ∈ _, _
          rw [HSN.out]
          intro r hr
          rcases List.mem_append.1 hr with h | h
          · exact HM.out r h
          · rw [List.mem_singleton.1 h]; exact HMK.out
        · rw [HSN.out, jrnL_append, jrnL_one]
          exact ho3
    · have hkk : k = rs.length := by omega
      subst hkk
      go_wp2_with fail
      go_ret2
      have HM' := HM.out
      rw [List.take_length] at HM' ho
      exact ⟨_, 0, rfl, hb, .inl ⟨HM', rfl, ho⟩⟩
end Go.Proofs.Ytcbbnmodjnnbeaa
