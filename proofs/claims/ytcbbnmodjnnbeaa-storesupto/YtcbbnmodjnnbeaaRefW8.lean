/- The document's store: Do. -/
import Derived.Test.YtcbbnmodjnnbeaaRefW5
import Derived.Test.YtcbbnmodjnnbeaaNewW
import Derived.Test.YtcbbnmodjnnbeaaTab
import Derived.Test.YtcbbnmodjnnbeaaSess8
import Derived.Test.YtcbbnmodjnnbeaaLoadP
import Derived.Test.YtcbbnmodjnnbeaaRead
set_option linter.unusedSimpArgs false
set_option linter.unusedVariables false
namespace Go.Proofs.Ytcbbnmodjnnbeaa
open Go.RowKit

theorem refStep (w : World) (q : Nat) (vl : Value) (s : St) (l : List KV) (h : RefAt w q vl s l) (c : Cmd) (hc : CmdBd c) :
    Calls Try.prog 112 #[.pointer (some ⟨q, 0, none⟩), (.agg #[.int .i64 c.kind, .string c.key, .string c.val, .string c.old, .int .i64 c.rev, .int .i64 c.ses, .int .i64 c.seq])] w fun e w' => e = .returned (s.result c).1.v ∧ RChg w w' q vl (s.result c).2 := by
  by_cases h0 : c.ses = 0
  · have e : s.result c = s.done c := by unfold St.result; rw [if_pos h0]
    rw [e]; exact refStep0 w q vl s l h c h0
  · have := hc.s0
    have := hc.s8
    have := hc.q0
    exact refStepS w q vl s l h c (c.ses - 1).toNat (by omega) (by omega) c.seq.toNat (by omega)
set_option maxRecDepth 100000 in
set_option maxHeartbeats 1000000 in
theorem refDoNo (w : World) (q : Nat) (ac : Option Addr) (capc : Nat) (cs : List Cmd) (hr : w.reads 7 (.slice ac cs.length capc) (cs.map Cmd.cells)) (hn : cs.length ≤ 8796093022208) (hno : ∃ c ∈ cs, c.may = false) :
    Calls Try.prog 63 #[.pointer (some ⟨q, 0, none⟩), .slice ac cs.length capc] w fun e w' => e = .returned (.tuple #[nilS, .int .i64 8]) ∧ Below w.heap.size w w' := by
  go_enter Try.func63, Try.ntmps63
  go_wp2_with fail
  go_loopw [6] (fun i wr => ∃ k : Nat, k ≤ cs.length ∧ i = .int .i64 k ∧ Below w.heap.size w wr ∧ ∀ j (h : j < cs.length), j < k → cs[j].may = true) (fun i _ => cs.length - (intOf i).toNat)
  case atStart => exact ⟨0, Nat.zero_le _, rfl, Below.refl _ _, fun j _ h => by omega⟩
  case round =>
    obtain ⟨k, hk, rfl, hb, hall⟩ := hrel
    by_cases hlt : k < cs.length
    · have hr' : wr.reads 7 (.slice ac cs.length capc) (cs.map Cmd.cells) := hr.keep fun x hx => hb.block x (reads_lt' hr hx)
      obtain ⟨g, o, rfl, hg, hv⟩ := Cmd.at_reads hr' hlt
      obtain ⟨d0, d1, d2, d3, d4, d5, d6⟩ := Cmd.off hv
      have HC : Hid (∀ b, cs[k].may = b → ∀ j (h : j < cs.length), j < k + 1 → b = true → cs[j].may = true) := fun b hb j h hj e => by
        rcases Nat.lt_or_ge j k with h1 | h1
        · exact hall j h h1
        · have : j = k := by omega
          subst this; rw [hb, e]
      have HM : Hid (∃ b, cs[k].may = b) := ⟨_, rfl⟩
      generalize cs[k] = c at *
      have hmay := fun W => refKnown c W
      clear hv hr' hr hno hall
      obtain ⟨b, hbm⟩ := HM.out
      rw [hbm] at hmay
      have HC2 := HC.out b hbm
      have HC3 : Hid (∀ j (h : j < cs.length), j < k + 1 → b = true → cs[j].may = true) := HC2
      clear HC HC2 HM hbm
      have hk1 : (k : Int) < cs.length := by omega
      cases b
      · go_wp2_with (go_at_call 106; refine (hmay _).mono ?_; rintro e w1 ⟨rfl, hb1⟩)
        exact bodyPost_ret (v := .tuple #[nilS, .int .i64 8]) (by simp [results, Try.results63, go_sem]) rfl ⟨rfl, hb.trans (hb1.mono hb.size)⟩
      · go_wp2_with (go_at_call 106; refine (hmay _).mono ?_; rintro e w1 ⟨rfl, hb1⟩)
        exact ⟨⟨k + 1, by omega, val_int (by omega), hb.trans (hb1.mono hb.size), fun j h hj => HC3.out j h hj trivial⟩, by simp [intOf]; omega⟩
    · exfalso
      obtain ⟨c, hc, hcm⟩ := hno
      obtain ⟨j, hj, rfl⟩ := List.mem_iff_getElem.1 hc
      rw [hall j hj (by omega)] at hcm
      exact Bool.noConfusion hcm
/-- On the way of Do's second loop. -/
structure RInvD (w wr : World) (q : Nat) (vl : Value) (s' : St) (rs : List Res) (v : Value) : Prop where
  chg : RChg w wr q vl s'
  own : wr.ownL 72 3 v (rs.map Res.cells)
  new : ∀ x, v.ownBlock = some x → w.heap.size ≤ x
theorem RInvD.call {w wr w1 : World} {q : Nat} {vl vl1 : Value} {s1 s2 : St} {l1 : List KV} {rs : List Res} {v : Value} (h : RInvD w wr q vl s1 rs v) (hR : RefAt wr q vl1 s1 l1) (hf : ∀ x, vl1.ownBlock = some x → vl.ownBlock = some x ∨ w.heap.size ≤ x) (ht : w.turned wr (footR q vl)) (hq : q < w.heap.size) (hc : RChg wr w1 q vl1 s2) : RInvD w w1 q vl s2 rs v := by
  obtain ⟨vl2, l2, h1, h2, h3⟩ := hc
  have hs := ht.size
  refine ⟨⟨vl2, l2, h1, fun x hx => ?_, ht.trans h3 fun x hx e => ?_⟩, h.own.keep fun x hx => h3.block x (h.own.lt hx) fun e => ?_, h.new⟩
  · rcases h2 x hx with h4 | h4
    · exact hf x h4
    · exact .inr (by omega)
  · rcases e with e | e
    · exact .inl e
    · rcases hf x e with h4 | h4
      · exact .inr h4
      · omega
  · rcases e with e | e
    · have := h.new x hx; omega
    · exact owns_ne h.own hR.own (by decide) hx e
theorem RInvD.add {w W w3 : World} {q : Nat} {vl : Value} {s1 : St} {rs : List Res} {r : Res} {v v' : Value} (h : RInvD w W q vl s1 rs v) (hq : q < w.heap.size) {W' : World} (hb : Below W.heap.size W W') (ho : w3.ownL 72 3 v' (rs.map Res.cells ++ [r.cells])) (hg : Grew W' w3 v v') : RInvD w w3 q vl s1 (rs ++ [r]) v' := by
  obtain ⟨vl1, l1, h1, h2, h3⟩ := h.chg
  have hs := h3.size
  have hs2 := hb.size
  have hne : ∀ x, footR q vl1 x → v.ownBlock ≠ some x := fun x hx e => by
    rcases hx with rfl | hx
    · have := h.new x e; omega
    · exact owns_ne h1.own h.own (by decide) hx e
  refine ⟨⟨vl1, l1, (h1.grown hb).keep fun x hx => hg.keep (by have := h1.foot_lt hx; omega) (hne x hx), h2, ?_⟩, by rw [List.map_append]; exact ho, fun x hx => ?_⟩
  · exact (h3.trans (World.turned.of_below hb (fun _ => False)) (fun _ _ e => e.elim)).grew hg fun x hx e => by have := h.new x e; omega
  · rcases hg.own with e | e
    · exact h.new x (e ▸ hx)
    · have := e x hx; omega
set_option maxRecDepth 100000 in
set_option maxHeartbeats 2000000 in
theorem refDoYes (w : World) (q : Nat) (vl : Value) (s : St) (l : List KV) (h : RefAt w q vl s l) (ac : Option Addr) (capc : Nat) (cs : List Cmd) (hr : cs ≠ [] → w.reads 7 (.slice ac cs.length capc) (cs.map Cmd.cells)) (hoff : cs ≠ [] → ∀ k, (Value.slice ac cs.length capc).ownBlock = some k → ¬ footR q vl k) (hn : cs.length ≤ 1048576) (hall : ∀ c ∈ cs, c.may = true) :
    Calls Try.prog 63 #[.pointer (some ⟨q, 0, none⟩), .slice ac cs.length capc] w fun e w' => ∃ v, e = .returned (.tuple #[v, .int .i64 0]) ∧ RInvD w w' q vl (doAll s cs).2 (doAll s cs).1 v := by
  have H : Hid (RefAt w q vl s l) := h
  have hq := h.lt
  clear h
  go_enter Try.func63, Try.ntmps63
  go_wp2_with fail
  go_loopw [6] (fun i wr => ∃ k : Nat, k ≤ cs.length ∧ i = .int .i64 k ∧ Below w.heap.size w wr) (fun i _ => cs.length - (intOf i).toNat)
  case atStart => exact ⟨0, Nat.zero_le _, rfl, Below.refl _ _⟩
  case round =>
    obtain ⟨k, hk, rfl, hb⟩ := hrel
    by_cases hlt : k < cs.length
    · have hr0 := hr (fun e => by rw [e] at hlt; simp at hlt)
      have hr' : wr.reads 7 (.slice ac cs.length capc) (cs.map Cmd.cells) := hr0.keep fun x hx => hb.block x (reads_lt' hr0 hx)
      obtain ⟨g, o, rfl, hg, hv⟩ := Cmd.at_reads hr' hlt
      obtain ⟨d0, d1, d2, d3, d4, d5, d6⟩ := Cmd.off hv
      have hmay := fun W => refKnown cs[k] W
      rw [hall cs[k] (List.getElem_mem _)] at hmay
      generalize cs[k] = c at *
      clear hv hr' hr hr0 hall hoff
      have hk1 : (k : Int) < cs.length := by omega
      go_wp2_with (go_at_call 106; refine (hmay _).mono ?_; rintro e w1 ⟨rfl, hb1⟩)
      exact ⟨⟨k + 1, by omega, val_int (by omega), hb.trans (hb1.mono hb.size)⟩, by simp [intOf]; omega⟩
    · have hkk : k = cs.length := by omega
      subst hkk
      have HB0 : Hid (Below w.heap.size w wr) := hb
      clear hb hlt hk
      go_wp2_with fail
      have HI0 : Hid (RInvD w wr q vl s [] nilS) := ⟨RChg.refl' H.out HB0.out, World.ownL.nil _ _ _, fun x hx => by cases hx⟩
      go_loopw [8, 9] (fun v i wr => ∃ k, k ≤ cs.length ∧ i = .int .i64 ((k : Nat) : Int) ∧ Hid (RInvD w wr q vl (doAll s (cs.take k)).2 (doAll s (cs.take k)).1 v)) (fun _ i _ => cs.length - (intOf i).toNat)
      case atStart => exact ⟨0, Nat.zero_le _, rfl, HI0⟩
      case round =>
        clear HI0 HB0
        obtain ⟨k, hk, rfl, HI⟩ := hrel
        by_cases hlt : k < cs.length
        · obtain ⟨vl1, l1, hR1, hf1, ht1⟩ := HI.out.chg
          have hr0 := hr (fun e => by rw [e] at hlt; simp at hlt)
          have hr' : wr.reads 7 (.slice ac cs.length capc) (cs.map Cmd.cells) := hr0.keep fun x hx => ht1.block x (reads_lt' hr0 hx) (hoff (fun e => by rw [e] at hlt; simp at hlt) x hx)
          obtain ⟨ga, oa, rfl, hga, hv⟩ := Cmd.at_reads hr' hlt
          obtain ⟨d0, d1, d2, d3, d4, d5, d6⟩ := Cmd.off hv
          have htake : cs.take (k + 1) = cs.take k ++ [cs[k]] := by rw [List.take_add_one, List.getElem?_eq_getElem hlt]; rfl
          have HT : Hid (doAll s (cs.take (k + 1)) = ((doAll s (cs.take k)).1 ++ [((doAll s (cs.take k)).2.result cs[k]).1], ((doAll s (cs.take k)).2.result cs[k]).2)) := by
            show _ = _
            rw [htake, doAll_snoc]
          have hc : CmdBd cs[k] := cmd_bd _ (hall _ (List.getElem_mem _))
          have hrl : (doAll s (cs.take k)).1.length ≤ k := by rw [doAll_len, List.length_take]; omega
          generalize cs[k] = c at *
          generalize (doAll s (cs.take k)).2 = s1 at *
          generalize (doAll s (cs.take k)).1 = rs at *
          have hcall := fun W (hW : Below wr.heap.size wr W) => refStep W q vl1 s1 l1 (hR1.grown hW) c hc
          obtain ⟨r, hr0'⟩ : ∃ r, (s1.result c).1 = r := ⟨_, rfl⟩
          rw [hr0'] at HT hcall
          obtain ⟨s2, hs2⟩ : ∃ s2, (s1.result c).2 = s2 := ⟨_, rfl⟩
          rw [hs2] at HT hcall
          have HCALL : Hid (∀ W, Below wr.heap.size wr W → Calls Try.prog 112 #[.pointer (some ⟨q, 0, none⟩), (.agg #[.int .i64 c.kind, .string c.key, .string c.val, .string c.old, .int .i64 c.rev, .int .i64 c.ses, .int .i64 c.seq])] W fun e w' => e = .returned (.agg #[.bool r.ok, .int .i64 r.rev, .bool r.stale]) ∧ RChg W w' q vl1 s2) := hcall
          have HR1 : Hid (RefAt wr q vl1 s1 l1 ∧ (∀ x, vl1.ownBlock = some x → vl.ownBlock = some x ∨ w.heap.size ≤ x) ∧ w.turned wr (footR q vl)) := ⟨hR1, hf1, ht1⟩
          have hk1 : (k : Int) < cs.length := by omega
          have hql : q < wr.heap.size := hR1.lt
          have hrl2 : (rs.map Res.cells).length = rs.length := List.length_map _
          have hl1 : (rs.map Res.cells).length + 1 ≤ maxLen := by rw [hrl2]; unfold maxLen; omega
          have hl2 : ((rs.map Res.cells).length + 1) * 24 ≤ 140737488355328 := by rw [hrl2]; omega
          clear hv hr' hr hr0 hall hoff htake hc hcall hr0' hs2 hR1 hf1 ht1
          have hone : ∀ u ∈ (#[.bool r.ok, .int .i64 r.rev, .bool r.stale] : Array Value).toList, u.oneCell' = true := by
            intro u hu
            simp only [List.mem_cons, List.not_mem_nil, or_false] at hu
            rcases hu with rfl | rfl | rfl <;> rfl
          go_wp2_with fail
          refine (HCALL.out _ (Below.refl _ _)).mono ?_
          rintro e w1 ⟨rfl, hg⟩
          have HI1 : Hid (RInvD w w1 q vl s2 rs u8) := HI.out.call HR1.out.1 HR1.out.2.1 HR1.out.2.2 H.out.lt hg
          have hown := HI1.out.own
          clear hg d0 d1 d2 d3 d4 d5 d6
          go_wp2_with (at_builtin; refine Held.out ?_)
          unfold Held
          refine wpL_new rfl _ _ 68 rfl 72 3 24 _ Try.underlying68 infoRes rfl (by decide) u8 (rs.map Res.cells) rfl ((hown.alloc _).alloc _) #[.bool r.ok, .int .i64 r.rev, .bool r.stale] (w1.heap.size + 1) rfl (Hp.new (by simp [go_sem])) rfl hone hl1 hl2 ?_
          intro a' cap' w4 ho4 hg4 _
          have HI4 : Hid (RInvD w w4 q vl s2 (rs ++ [r]) (.slice a' ((rs.map Res.cells).length + 1) cap')) := HI1.out.add H.out.lt (by repeat (first | exact Below.refl _ _ | assumption | with_reducible refine below_drewN ?_ _ | refine Gr.ext ?_ _ | refine Gr.alloc ?_ _ | refine Gr.drew ?_ | (refine Gr.set ?_ (by first | (simp; done) | (simp; omega)) _))) ho4 hg4
          clear ho4 hg4
          go_frame
          go_wp2_with fail
          exact ⟨⟨k + 1, by omega, val_int (by omega), by rw [HT.out]; exact HI4⟩, by simp [intOf]; omega⟩
        · have hkk : k = cs.length := by omega
          subst hkk
          have hI := HI.out
          rw [List.take_length] at hI
          have HI2 : Hid (RInvD w wr q vl (doAll s cs).2 (doAll s cs).1 u8) := hI
          clear hI HI
          go_wp2_with fail
          exact bodyPost_ret (v := .tuple #[u8, .int .i64 0]) (by simp [results, Try.results63, go_sem]) rfl ⟨u8, rfl, HI2.out⟩
end Go.Proofs.Ytcbbnmodjnnbeaa
/- The document's store: Range. -/
set_option linter.unusedSimpArgs false
set_option linter.unusedVariables false
namespace Go.Proofs.Ytcbbnmodjnnbeaa
open Go.RowKit

theorem keys_from {s : St} {l : List KV} (h : Tells s l) (lo : ByteArray) : ∃ kf : List ByteArray, (kf.Pairwise fun a b => a.data.toList < b.data.toList) ∧ ∀ k, k ∈ kf ↔ s.vers k ≠ [] ∧ lo.data.toList ≤ k.data.toList := by
  obtain ⟨ks, h1, h2⟩ := h.keys
  refine ⟨ks.filter fun k => decide (lo.data.toList ≤ k.data.toList), h1.filter _, fun k => ?_⟩
  rw [List.mem_filter, h2, decide_eq_true_eq]
/-- How many keys are left. -/
def measK (kf : List ByteArray) (kv mv : Value) : Nat := match kv, mv with
  | .string b, .bool true => (kf.filter fun y => decide (b.data.toList ≤ y.data.toList)).length
  | _, _ => 0
theorem measK_at {done rest : List ByteArray} {b : ByteArray} (hs : (done ++ b :: rest).Pairwise fun a b => a.data.toList < b.data.toList) : measK (done ++ b :: rest) (.string b) (.bool true) = rest.length + 1 := by
  show ((done ++ b :: rest).filter _).length = _
  obtain ⟨h1, h2, h3⟩ := List.pairwise_append.1 hs
  have e1 : done.filter (fun y => decide (b.data.toList ≤ y.data.toList)) = [] := List.filter_eq_nil_iff.2 fun a ha => by
    rw [decide_eq_true_eq]
    exact fun hn => hn (h3 a ha b (by simp))
  have e2 : (b :: rest).filter (fun y => decide (b.data.toList ≤ y.data.toList)) = b :: rest := List.filter_eq_self.2 fun a ha => by
    rw [decide_eq_true_eq]
    rcases List.mem_cons.1 ha with rfl | ha
    · exact List.le_refl _
    · exact List.le_of_lt ((List.pairwise_cons.1 h2).1 a ha)
  rw [List.filter_append, e1, e2, List.nil_append, List.length_cons]
theorem next_after {s : St} {l : List KV} (hT : Tells s l) {lo : ByteArray} {done rest : List ByteArray} {k b : ByteArray} {f : Bool} (hs : (done ++ k :: rest).Pairwise fun a b => a.data.toList < b.data.toList) (hm : ∀ y, y ∈ done ++ k :: rest ↔ s.vers y ≠ [] ∧ lo.data.toList ≤ y.data.toList) (h : NextIs l k false b f) :
    (f = false ∧ rest = []) ∨ (f = true ∧ ∃ rest', rest = b :: rest') := by
  have e : done ++ k :: rest = (done ++ [k]) ++ rest := by simp
  rw [e] at hs hm
  obtain ⟨h1, h2, h3⟩ := List.pairwise_append.1 hs
  have hk := (hm k).1 (by simp)
  refine next_rest hs (fun y hy => ?_) (fun y hy => .inl (h3 k (by simp) y hy)) (fun x hx hc => ?_) (fun y hy => ?_) h
  · rintro (hc | ⟨hc, _⟩)
    · rcases List.mem_append.1 hy with hy | hy
      · have := (List.pairwise_append.1 h1).2.2 y hy k (by simp)
        exact absurd (List.lt_trans hc this) (List.lt_irrefl _)
      · rw [List.mem_singleton.1 hy] at hc
        exact absurd hc (List.lt_irrefl _)
    · cases hc
  · rcases hc with hc | ⟨hc, _⟩
    · exact (hm x.1).2 ⟨(hT.has x.1).2 ⟨x, hx, rfl⟩, List.le_trans hk.2 (List.le_of_lt hc)⟩
    · cases hc
  · exact (hT.has y).1 ((hm y).1 (List.mem_append_right _ hy)).1
theorem next_first {s : St} {l : List KV} (hT : Tells s l) {lo : ByteArray} {kf : List ByteArray} {b : ByteArray} {f : Bool} (hs : kf.Pairwise fun a b => a.data.toList < b.data.toList) (hm : ∀ y, y ∈ kf ↔ s.vers y ≠ [] ∧ lo.data.toList ≤ y.data.toList) (h : NextIs l lo true b f) :
    (f = false ∧ kf = []) ∨ (f = true ∧ ∃ rest', kf = b :: rest') := by
  have hc : ∀ y : ByteArray, candK lo true y ↔ lo.data.toList ≤ y.data.toList := fun y => by
    constructor
    · rintro (h | ⟨_, rfl⟩)
      · exact List.le_of_lt h
      · exact List.le_refl _
    · intro h
      by_cases e : y = lo
      · exact .inr ⟨rfl, e⟩
      · exact .inl (Classical.byContradiction fun hn => e (bytes_ext (List.le_antisymm hn h)))
  exact next_rest (done := []) (rest := kf) hs (fun y hy => by cases hy) (fun y hy => (hc y).2 ((hm y).1 hy).2) (fun x hx hcx => (hm x.1).2 ⟨(hT.has x.1).2 ⟨x, hx, rfl⟩, (hc _).1 hcx⟩) (fun y hy => (hT.has y).1 ((hm y).1 hy).1) h
theorem fnd_has {s : St} {l : List KV} (hT : Tells s l) (k : ByteArray) (rev : Int) : (hasV l k rev = none ∧ fndAt s rev k = none) ∨ ∃ v, hasV l k rev = some v ∧ v.gone = false ∧ fndAt s rev k = some ⟨k, v.val, v.rev⟩ := by
  rcases hasV_at hT.asc k rev with ⟨h1, h2⟩ | ⟨h1, h2⟩
  · refine .inl ⟨h1, ?_⟩
    unfold fndAt look
    rw [hT.vers, if_pos h2]; rfl
  · refine .inr ⟨_, h1, h2, ?_⟩
    unfold fndAt look
    rw [hT.vers, if_neg (by rw [h2]; simp)]; rfl
/-- What a Range tells, out of the keys in their order. -/
theorem rangeIs_parts {s : St} {lo hi : ByteArray} {rev : Int} {done rest : List ByteArray} (hs : (done ++ rest).Pairwise fun a b => a.data.toList < b.data.toList) (hm : ∀ y, y ∈ done ++ rest ↔ s.vers y ≠ [] ∧ lo.data.toList ≤ y.data.toList) (hd : ∀ y ∈ done, hi.size = 0 ∨ y.data.toList < hi.data.toList) :
    ∃ more, RangeIs s lo hi rev (done.filterMap (fndAt s rev) ++ more) ∧ ((∀ y ∈ rest, ¬ (hi.size = 0 ∨ y.data.toList < hi.data.toList)) → more = []) := by
  have h := rangeIs_of (s := s) (lo := lo) (hi := hi) (rev := rev) (ks := (done ++ rest).filter fun k => decide (hi.size = 0 ∨ k.data.toList < hi.data.toList)) (hs.filter _) (fun k => by
    rw [List.mem_filter, hm, decide_eq_true_eq, and_assoc]; rfl)
  rw [List.filter_append, List.filterMap_append, List.filter_eq_self.2 (fun a ha => decide_eq_true (hd a ha))] at h
  refine ⟨_, h, fun hr => ?_⟩
  rw [List.filter_eq_nil_iff.2 (fun a ha => by rw [decide_eq_true_eq]; exact hr a ha)]; rfl
theorem nodup_len {a b : List ByteArray} (hn : a.Nodup) (h : ∀ y ∈ a, y ∈ b) : a.length ≤ b.length := by
  induction a generalizing b with
  | nil => simp
  | cons x a ih =>
    obtain ⟨h1, h2⟩ := List.nodup_cons.1 hn
    have hx := h x (by simp)
    have h3 := ih (b := b.filter fun y => decide (y ≠ x)) h2 fun y hy => List.mem_filter.2 ⟨h y (by simp [hy]), decide_eq_true (fun e => h1 (by rw [← e]; exact hy))⟩
    have h4 : (b.filter fun y => decide (y ≠ x)).length < b.length := List.length_filter_lt_length_iff_exists.2 ⟨x, hx, by simp⟩
    rw [List.length_cons]; omega
set_option maxRecDepth 100000 in
set_option maxHeartbeats 1000000 in
theorem refRangeArg (w : World) (q : Nat) (lo hi : ByteArray) (rev most : Int) (hm : most < 0) :
    Calls Try.prog 67 #[.pointer (some ⟨q, 0, none⟩), .string lo, .string hi, .int .i64 rev, .int .i64 most] w fun e w' => e = .returned (.tuple #[nilS, .int .i64 2]) ∧ Below w.heap.size w w' := by
  go_enter Try.func67, Try.ntmps67
  go_wp2_with fail
  exact bodyPost_ret (v := .tuple #[nilS, .int .i64 2]) (by simp [results, Try.results67, go_sem]) rfl ⟨rfl, (by repeat (first | exact Below.refl _ _ | assumption | with_reducible refine below_drewN ?_ _ | refine Gr.ext ?_ _ | refine Gr.alloc ?_ _ | refine Gr.drew ?_ | (refine Gr.set ?_ (by first | (simp; done) | (simp; omega)) _)))⟩
set_option maxRecDepth 100000 in
set_option maxHeartbeats 1000000 in
theorem refRangeRev (w : World) (q : Nat) (vl : Value) (s : St) (l : List KV) (h : RefAt w q vl s l) (lo hi : ByteArray) (rev most : Int) (hm : 0 ≤ most) (hr : rev < s.floor ∨ (s.rev : Int) < rev) :
    Calls Try.prog 67 #[.pointer (some ⟨q, 0, none⟩), .string lo, .string hi, .int .i64 rev, .int .i64 most] w fun e w' => e = .returned (.tuple #[nilS, .int .i64 9]) ∧ Below w.heap.size w w' := by
  obtain ⟨c0, c1, c2, cf⟩ := rs_cells h.blk
  have hq := h.lt
  have hd : decide (most < 0) = false := decide_eq_false (by omega)
  clear h
  by_cases h1 : rev < s.floor
  · have hd1 : decide (rev < (s.floor : Int)) = true := decide_eq_true h1
    clear hr
    go_enter Try.func67, Try.ntmps67
    go_wp2_with fail
    exact bodyPost_ret (v := .tuple #[nilS, .int .i64 9]) (by simp [results, Try.results67, go_sem]) rfl ⟨rfl, (by repeat (first | exact Below.refl _ _ | assumption | with_reducible refine below_drewN ?_ _ | refine Gr.ext ?_ _ | refine Gr.alloc ?_ _ | refine Gr.drew ?_ | (refine Gr.set ?_ (by first | (simp; done) | (simp; omega)) _)))⟩
  · have h2 : (s.rev : Int) < rev := by omega
    have hd1 : decide (rev < (s.floor : Int)) = false := decide_eq_false h1
    have hd2 : decide ((s.rev : Int) < rev) = true := decide_eq_true h2
    clear hr
    go_enter Try.func67, Try.ntmps67
    go_wp2_with fail
    exact bodyPost_ret (v := .tuple #[nilS, .int .i64 9]) (by simp [results, Try.results67, go_sem]) rfl ⟨rfl, (by repeat (first | exact Below.refl _ _ | assumption | with_reducible refine below_drewN ?_ _ | refine Gr.ext ?_ _ | refine Gr.alloc ?_ _ | refine Gr.drew ?_ | (refine Gr.set ?_ (by first | (simp; done) | (simp; omega)) _)))⟩
/-- What a Range that is right hands out. -/
def ROut (w w' : World) (s : St) (lo hi : ByteArray) (rev : Int) (most : Nat) (v : Value) : Prop := ∃ L : List Fnd, RangeIs s lo hi rev L ∧ w'.ownL 131 3 v ((L.take most).map Fnd.cells) ∧ (∀ x, v.ownBlock = some x → w.heap.size ≤ x) ∧ Below w.heap.size w w'
set_option maxRecDepth 100000 in
set_option maxHeartbeats 4000000 in
theorem refRangeOk (w : World) (q : Nat) (vl : Value) (s : St) (l : List KV) (h : RefAt w q vl s l) (lo hi : ByteArray) (rev : Int) (most : Nat) (hr1 : (s.floor : Int) ≤ rev) (hr2 : rev ≤ s.rev) (hm : most < 9223372036854775808) :
    Calls Try.prog 67 #[.pointer (some ⟨q, 0, none⟩), .string lo, .string hi, .int .i64 rev, .int .i64 most] w fun e w' => ∃ v : Value, e = .returned (.tuple #[v, .int .i64 0]) ∧ ROut w w' s lo hi rev most v := by
  obtain ⟨c0, c1, c2, cf⟩ := rs_cells h.blk
  have H : Hid (RefAt w q vl s l) := h
  have hq := h.lt
  have hd0 : decide ((most : Int) < 0) = false := decide_eq_false (by omega)
  have hd1 : decide (rev < (s.floor : Int)) = false := decide_eq_false (by omega)
  have hd2 : decide ((s.rev : Int) < rev) = false := decide_eq_false (by omega)
  obtain ⟨kf, hks, hkm⟩ := keys_from h.tells lo
  have HKF : Hid ((kf.Pairwise fun a b => a.data.toList < b.data.toList) ∧ ∀ k, k ∈ kf ↔ s.vers k ≠ [] ∧ lo.data.toList ≤ k.data.toList) := ⟨hks, hkm⟩
  have HM : Hid (most < 9223372036854775808) := hm
  clear h hks hkm
  go_enter Try.func67, Try.ntmps67
  go_wp2_with fail
  refine (refNext _ q vl s l (H.out.grown (by repeat (first | exact Below.refl _ _ | assumption | with_reducible refine below_drewN ?_ _ | refine Gr.ext ?_ _ | refine Gr.alloc ?_ _ | refine Gr.drew ?_ | (refine Gr.set ?_ (by first | (simp; done) | (simp; omega)) _)))) lo true).mono ?_
  rintro e w1 ⟨b0, f0, rfl, HN, hb1⟩
  have HB1 : Hid (Below w.heap.size w w1) := ((by repeat (first | exact Below.refl _ _ | assumption | with_reducible refine below_drewN ?_ _ | refine Gr.ext ?_ _ | refine Gr.alloc ?_ _ | refine Gr.drew ?_ | (refine Gr.set ?_ (by first | (simp; done) | (simp; omega)) _))) : Below w.heap.size w _).trans (hb1.mono (by simp))
  have HNX : Hid ((f0 = false ∧ kf = []) ∨ (f0 = true ∧ ∃ rest', kf = b0 :: rest')) := next_first H.out.tells HKF.out.1 HKF.out.2 HN.out
  have HI0 : Hid (FInv w w1 [] nilS) := ⟨World.ownL.nil _ _ _, (fun x hx => by cases hx), HB1.out⟩
  clear HN hb1 c0 c1 c2 cf
  go_wp2_with fail
  go_loopw [12, 13, 14] (fun v kv mv wr => ∃ (b : ByteArray) (f : Bool) (done rest : List ByteArray) (fs : List Fnd), kv = .string b ∧ mv = .bool f ∧ Hid (kf = done ++ rest) ∧ Hid (∀ y ∈ done, hi.size = 0 ∨ y.data.toList < hi.data.toList) ∧ Hid (fs = done.filterMap (fndAt s rev)) ∧ fs.length ≤ most ∧ Hid ((f = false ∧ rest = []) ∨ (f = true ∧ ∃ rest', rest = b :: rest')) ∧ Hid (FInv w wr fs v)) (fun _ kv mv _ => measK kf kv mv)
  case atStart => exact ⟨b0, f0, [], kf, [], rfl, rfl, rfl, (fun y hy => by cases hy), rfl, Nat.zero_le _, HNX, HI0⟩
  case round =>
    clear HI0 HNX HB1
    obtain ⟨b, f, done, rest, fs, rfl, rfl, HK, HD, HFS, hfm, HN, HI⟩ := hrel
    obtain ⟨fa, fcap, hfv⟩ : ∃ a cap, u12 = .slice a fs.length cap := by obtain ⟨a, c, h⟩ := HI.out.own.len; rw [List.length_map] at h; exact ⟨a, c, h⟩
    subst hfv
    have HEND : Hid ((fs.length = most ∨ ∀ y ∈ rest, ¬ (hi.size = 0 ∨ y.data.toList < hi.data.toList)) → ROut w wr s lo hi rev most (.slice fa fs.length fcap)) := by
      intro hor
      have hp := HKF.out
      rw [HK.out] at hp
      obtain ⟨more, hR, hmore⟩ := rangeIs_parts (rev := rev) (hi := hi) hp.1 hp.2 HD.out
      rw [← HFS.out] at hR
      refine ⟨fs ++ more, hR, ?_, HI.out.new, HI.out.below⟩
      have et : (fs ++ more).take most = fs := by
        rcases hor with h | h
        · rw [← h, List.take_left]
        · rw [hmore h, List.append_nil, List.take_of_length_le hfm]
      rw [et]; exact HI.out.own
    rcases HN.out with ⟨rfl, hrest⟩ | ⟨rfl, rest', hrest⟩
    · subst hrest
      go_wp2_with fail
      exact bodyPost_ret (v := .tuple #[.slice fa fs.length fcap, .int .i64 0]) (by simp [results, Try.results67, go_sem]) rfl ⟨_, rfl, HEND.out (.inr (fun y hy => by cases hy))⟩
    · subst hrest
      by_cases hto : hi.size = 0 ∨ b.data.toList < hi.data.toList
      · by_cases hlm : fs.length < most
        · have hd3 : decide ((fs.length : Int) < (most : Int)) = true := decide_eq_true (by omega)
          have hd4 : decide (fs.length < most) = true := decide_eq_true hlm
          have HTO : Hid (hi.size = 0 ∨ b.data.toList < hi.data.toList) := hto
          have HLM : Hid (fs.length < most) := hlm
          have hb := HI.out.below
          have hRr : RefAt wr q vl s l := H.out.grown hb
          have HRR : Hid (RefAt wr q vl s l) := hRr
          have hhas := fun W (hW : Below wr.heap.size wr W) => refHas W q vl s l (hRr.grown hW) b rev
          have hnext := fun W (hW : Below wr.heap.size wr W) => refNext W q vl s l (hRr.grown hW) b false
          have HNEXT : Hid (∀ W, Below wr.heap.size wr W → Calls Try.prog 113 #[.pointer (some ⟨q, 0, none⟩), .string b, .bool false] W fun e w' => ∃ b' f', e = .returned (.tuple #[.string b', .bool f']) ∧ Hid (NextIs l b false b' f') ∧ Below W.heap.size W w') := hnext
          have hpw := HKF.out
          rw [HK.out] at hpw
          have HME : Hid (measK kf (.string b) (.bool true) = rest'.length + 1) := by show _ = _; rw [HK.out]; exact measK_at hpw.1
          have HNX2 : Hid (∀ b' f', NextIs l b false b' f' → ((f' = false ∧ rest' = []) ∨ (f' = true ∧ ∃ rest'', rest' = b' :: rest''))) := fun b' f' h => next_after H.out.tells hpw.1 hpw.2 h
          have HK2 : Hid (kf = (done ++ [b]) ++ rest') := by show _ = _; rw [HK.out]; simp
          have HD2 : Hid (∀ y ∈ done ++ [b], hi.size = 0 ∨ y.data.toList < hi.data.toList) := fun y hy => by
            rcases List.mem_append.1 hy with hy | hy
            · exact HD.out y hy
            · rw [List.mem_singleton.1 hy]; exact HTO.out
          have HME2 : Hid (∀ b' f', ((f' = false ∧ rest' = []) ∨ (f' = true ∧ ∃ rest'', rest' = b' :: rest'')) → measK kf (.string b') (.bool f') < measK kf (.string b) (.bool true)) := by
            intro b' f' h
            rw [HME.out]
            rcases h with ⟨rfl, _⟩ | ⟨rfl, rest'', e⟩
            · show 0 < _; omega
            · have hp2 := HKF.out.1
              rw [HK2.out, e] at hp2
              have e2 : measK kf (.string b') (.bool true) = rest''.length + 1 := by rw [HK2.out, e]; exact measK_at hp2
              rw [e2, e, List.length_cons]; omega
          have hqr : q < wr.heap.size := hRr.lt
          have hflen : (fs.map Fnd.cells).length = fs.length := List.length_map _
          have hfl1 : fs.length ≤ 1000000 := by
            have h1 : fs.length ≤ done.length := by rw [HFS.out]; exact List.length_filterMap_le _ _
            have h2 : done.length ≤ l.length := by
              have hn : done.Nodup := (keys_nodup (s := s) hpw.1).sublist (List.sublist_append_left _ _)
              have h3 := sum_vers l
              refine Nat.le_trans ?_ (Nat.le_of_eq (List.length_map (f := fun x : KV => x.1)))
              exact nodup_len hn fun y hy => by
                obtain ⟨x, hx, e⟩ := (H.out.tells.has y).1 ((hpw.2 y).1 (List.mem_append_left _ hy)).1
                exact List.mem_map.2 ⟨x, hx, e⟩
            have h3 := H.out.len
            omega
          have hl1 : (fs.map Fnd.cells).length + 1 ≤ maxLen := by rw [hflen]; unfold maxLen; omega
          have hl2 : ((fs.map Fnd.cells).length + 1) * 40 ≤ 140737488355328 := by rw [hflen]; omega
          have hown := HI.out.own
          clear hlm hpw hRr hnext hb
          rcases fnd_has H.out.tells b rev with ⟨e1, e2⟩ | ⟨v, e1, e2, e3⟩
          · have HF2 : Hid (fs = (done ++ [b]).filterMap (fndAt s rev)) := by show _ = _; rw [List.filterMap_append, ← HFS.out, List.filterMap_cons, e2]; simp
            rw [e1] at hhas
            have HHAS : Hid (∀ W, Below wr.heap.size wr W → Calls Try.prog 114 #[.pointer (some ⟨q, 0, none⟩), .string b, .int .i64 rev] W fun e w' => e = .returned (.tuple #[.agg #[.string ⟨#[]⟩, .int .i64 0, .bool false, .string ⟨#[]⟩], .bool false]) ∧ Below W.heap.size W w') := hhas
            clear hhas e1 e2
            rcases hto with hto | hto
            · have ha1 : (hi.toList == []) = true := by rw [beq_iff_eq]; exact (nil_size _).2 hto
              have ha3 : hi.toList = [] := (nil_size _).2 hto
              clear hto
              go_wp2_with fail
              refine (HHAS.out _ (Below.refl _ _)).mono ?_
              rintro e w2 ⟨rfl, hb2⟩
              obtain ⟨x2, rfl⟩ := Below.ext hb2
              clear hb2
              go_wp2_with fail
              refine (HNEXT.out _ (by repeat (first | exact Below.refl _ _ | assumption | with_reducible refine below_drewN ?_ _ | refine Gr.ext ?_ _ | refine Gr.alloc ?_ _ | refine Gr.drew ?_ | (refine Gr.set ?_ (by first | (simp; done) | (simp; omega)) _)))).mono ?_
              rintro e w3 ⟨b', f', rfl, HN', hb3⟩
              obtain ⟨x3, rfl⟩ := Below.ext hb3
              clear hb3
              go_wp2_with fail
              exact ⟨⟨b', f', done ++ [b], rest', fs, rfl, rfl, HK2, HD2, HF2, hfm, HNX2.out _ _ HN'.out, HI.out.grow (by repeat (first | exact Below.refl _ _ | assumption | with_reducible refine below_drewN ?_ _ | refine Gr.ext ?_ _ | refine Gr.alloc ?_ _ | refine Gr.drew ?_ | (refine Gr.set ?_ (by first | (simp; done) | (simp; omega)) _)))⟩, HME2.out _ _ (HNX2.out _ _ HN'.out)⟩
            · have ha2 : Op.bytesLess b.toList hi.toList = true := (bl_data _ _).2 hto
              clear hto
              rcases hti : (hi.toList == []) with _ | _
              · have hti2 : ¬ hi.toList = [] := beq_eq_false_iff_ne.1 hti
                go_wp2_with fail
                refine (HHAS.out _ (Below.refl _ _)).mono ?_
                rintro e w2 ⟨rfl, hb2⟩
                obtain ⟨x2, rfl⟩ := Below.ext hb2
                clear hb2
                go_wp2_with fail
                refine (HNEXT.out _ (by repeat (first | exact Below.refl _ _ | assumption | with_reducible refine below_drewN ?_ _ | refine Gr.ext ?_ _ | refine Gr.alloc ?_ _ | refine Gr.drew ?_ | (refine Gr.set ?_ (by first | (simp; done) | (simp; omega)) _)))).mono ?_
                rintro e w3 ⟨b', f', rfl, HN', hb3⟩
                obtain ⟨x3, rfl⟩ := Below.ext hb3
                clear hb3
                go_wp2_with fail
                exact ⟨⟨b', f', done ++ [b], rest', fs, rfl, rfl, HK2, HD2, HF2, hfm, HNX2.out _ _ HN'.out, HI.out.grow (by repeat (first | exact Below.refl _ _ | assumption | with_reducible refine below_drewN ?_ _ | refine Gr.ext ?_ _ | refine Gr.alloc ?_ _ | refine Gr.drew ?_ | (refine Gr.set ?_ (by first | (simp; done) | (simp; omega)) _)))⟩, HME2.out _ _ (HNX2.out _ _ HN'.out)⟩
              · have hti2 : hi.toList = [] := beq_iff_eq.1 hti
                go_wp2_with fail
                refine (HHAS.out _ (Below.refl _ _)).mono ?_
                rintro e w2 ⟨rfl, hb2⟩
                obtain ⟨x2, rfl⟩ := Below.ext hb2
                clear hb2
                go_wp2_with fail
                refine (HNEXT.out _ (by repeat (first | exact Below.refl _ _ | assumption | with_reducible refine below_drewN ?_ _ | refine Gr.ext ?_ _ | refine Gr.alloc ?_ _ | refine Gr.drew ?_ | (refine Gr.set ?_ (by first | (simp; done) | (simp; omega)) _)))).mono ?_
                rintro e w3 ⟨b', f', rfl, HN', hb3⟩
                obtain ⟨x3, rfl⟩ := Below.ext hb3
                clear hb3
                go_wp2_with fail
                exact ⟨⟨b', f', done ++ [b], rest', fs, rfl, rfl, HK2, HD2, HF2, hfm, HNX2.out _ _ HN'.out, HI.out.grow (by repeat (first | exact Below.refl _ _ | assumption | with_reducible refine below_drewN ?_ _ | refine Gr.ext ?_ _ | refine Gr.alloc ?_ _ | refine Gr.drew ?_ | (refine Gr.set ?_ (by first | (simp; done) | (simp; omega)) _)))⟩, HME2.out _ _ (HNX2.out _ _ HN'.out)⟩
          · have HF2 : Hid (fs ++ [⟨b, v.val, v.rev⟩] = (done ++ [b]).filterMap (fndAt s rev)) := by show _ = _; rw [List.filterMap_append, ← HFS.out, List.filterMap_cons, e3]; simp
            rw [e1] at hhas
            have HHAS : Hid (∀ W, Below wr.heap.size wr W → Calls Try.prog 114 #[.pointer (some ⟨q, 0, none⟩), .string b, .int .i64 rev] W fun e w' => e = .returned (.tuple #[.agg #[.string b, .int .i64 v.rev, .bool v.gone, .string v.val], .bool true]) ∧ Below W.heap.size W w') := hhas
            have hone : ∀ u ∈ (#[Value.string b, .string v.val, .int .i64 v.rev] : Array Value).toList, u.oneCell' = true := by
              intro u hu
              simp only [List.mem_cons, List.not_mem_nil, or_false] at hu
              rcases hu with rfl | rfl | rfl <;> rfl
            clear hhas e1 e2 e3
            rcases hto with hto | hto
            · have ha1 : (hi.toList == []) = true := by rw [beq_iff_eq]; exact (nil_size _).2 hto
              have ha3 : hi.toList = [] := (nil_size _).2 hto
              clear hto
              go_wp2_with fail
              refine (HHAS.out _ (Below.refl _ _)).mono ?_
              rintro e w2 ⟨rfl, hb2⟩
              obtain ⟨x2, rfl⟩ := Below.ext hb2
              clear hb2
              go_wp2_with (at_builtin; refine Held.out ?_)
              unfold Held
              refine wpL_new rfl _ _ 73 rfl 131 3 40 _ Try.underlying73 infoFnd rfl (by decide) (.slice fa fs.length fcap) (fs.map Fnd.cells) rfl (((hown.ext x2).alloc _).alloc _) #[.string b, .string v.val, .int .i64 v.rev] (wr.heap.size + x2.new.size + 1) rfl (Hp.new (by simp [go_sem])) rfl hone hl1 hl2 ?_
              intro a' cap' w4 ho4 hg4 _
              rw [hflen] at ho4 hg4 ⊢
              have HI4 : Hid (FInv w w4 (fs ++ [⟨b, v.val, v.rev⟩]) (.slice a' (fs.length + 1) cap')) := HI.out.add (by repeat (first | exact Below.refl _ _ | assumption | with_reducible refine below_drewN ?_ _ | refine Gr.ext ?_ _ | refine Gr.alloc ?_ _ | refine Gr.drew ?_ | (refine Gr.set ?_ (by first | (simp; done) | (simp; omega)) _))) ho4 hg4
              have HB4 : Hid (Below w.heap.size w w4) := HI4.out.below
              have HR4 := H.out.grown HI4.out.below
              have hq4 : q < w4.heap.size := HR4.lt
              clear ho4 hg4
              go_frame
              go_wp2_with fail
              refine (refNext _ q vl s l HR4 b false).mono ?_
              rintro e w5 ⟨b', f', rfl, HN', hb5⟩
              have HI5 : Hid (FInv w w5 (fs ++ [⟨b, v.val, v.rev⟩]) (.slice a' (fs.length + 1) cap')) := HI4.out.grow hb5
              clear hb5 HR4
              go_wp2_with fail
              exact ⟨⟨b', f', done ++ [b], rest', fs ++ [⟨b, v.val, v.rev⟩], rfl, rfl, HK2, HD2, HF2, by rw [List.length_append, List.length_singleton]; exact HLM.out, HNX2.out _ _ HN'.out, HI5⟩, HME2.out _ _ (HNX2.out _ _ HN'.out)⟩
            · have ha2 : Op.bytesLess b.toList hi.toList = true := (bl_data _ _).2 hto
              clear hto
              rcases hti : (hi.toList == []) with _ | _
              · have hti2 : ¬ hi.toList = [] := beq_eq_false_iff_ne.1 hti
                go_wp2_with fail
                refine (HHAS.out _ (Below.refl _ _)).mono ?_
                rintro e w2 ⟨rfl, hb2⟩
                obtain ⟨x2, rfl⟩ := Below.ext hb2
                clear hb2
                go_wp2_with (at_builtin; refine Held.out ?_)
                unfold Held
                refine wpL_new rfl _ _ 73 rfl 131 3 40 _ Try.underlying73 infoFnd rfl (by decide) (.slice fa fs.length fcap) (fs.map Fnd.cells) rfl (((hown.ext x2).alloc _).alloc _) #[.string b, .string v.val, .int .i64 v.rev] (wr.heap.size + x2.new.size + 1) rfl (Hp.new (by simp [go_sem])) rfl hone hl1 hl2 ?_
                intro a' cap' w4 ho4 hg4 _
                rw [hflen] at ho4 hg4 ⊢
                have HI4 : Hid (FInv w w4 (fs ++ [⟨b, v.val, v.rev⟩]) (.slice a' (fs.length + 1) cap')) := HI.out.add (by repeat (first | exact Below.refl _ _ | assumption | with_reducible refine below_drewN ?_ _ | refine Gr.ext ?_ _ | refine Gr.alloc ?_ _ | refine Gr.drew ?_ | (refine Gr.set ?_ (by first | (simp; done) | (simp; omega)) _))) ho4 hg4
                have HB4 : Hid (Below w.heap.size w w4) := HI4.out.below
                have HR4 := H.out.grown HI4.out.below
                have hq4 : q < w4.heap.size := HR4.lt
                clear ho4 hg4
                go_frame
                go_wp2_with fail
                refine (refNext _ q vl s l HR4 b false).mono ?_
                rintro e w5 ⟨b', f', rfl, HN', hb5⟩
                have HI5 : Hid (FInv w w5 (fs ++ [⟨b, v.val, v.rev⟩]) (.slice a' (fs.length + 1) cap')) := HI4.out.grow hb5
                clear hb5 HR4
                go_wp2_with fail
                exact ⟨⟨b', f', done ++ [b], rest', fs ++ [⟨b, v.val, v.rev⟩], rfl, rfl, HK2, HD2, HF2, by rw [List.length_append, List.length_singleton]; exact HLM.out, HNX2.out _ _ HN'.out, HI5⟩, HME2.out _ _ (HNX2.out _ _ HN'.out)⟩
              · have hti2 : hi.toList = [] := beq_iff_eq.1 hti
                go_wp2_with fail
                refine (HHAS.out _ (Below.refl _ _)).mono ?_
                rintro e w2 ⟨rfl, hb2⟩
                obtain ⟨x2, rfl⟩ := Below.ext hb2
                clear hb2
                go_wp2_with (at_builtin; refine Held.out ?_)
                unfold Held
                refine wpL_new rfl _ _ 73 rfl 131 3 40 _ Try.underlying73 infoFnd rfl (by decide) (.slice fa fs.length fcap) (fs.map Fnd.cells) rfl (((hown.ext x2).alloc _).alloc _) #[.string b, .string v.val, .int .i64 v.rev] (wr.heap.size + x2.new.size + 1) rfl (Hp.new (by simp [go_sem])) rfl hone hl1 hl2 ?_
                intro a' cap' w4 ho4 hg4 _
                rw [hflen] at ho4 hg4 ⊢
                have HI4 : Hid (FInv w w4 (fs ++ [⟨b, v.val, v.rev⟩]) (.slice a' (fs.length + 1) cap')) := HI.out.add (by repeat (first | exact Below.refl _ _ | assumption | with_reducible refine below_drewN ?_ _ | refine Gr.ext ?_ _ | refine Gr.alloc ?_ _ | refine Gr.drew ?_ | (refine Gr.set ?_ (by first | (simp; done) | (simp; omega)) _))) ho4 hg4
                have HB4 : Hid (Below w.heap.size w w4) := HI4.out.below
                have HR4 := H.out.grown HI4.out.below
                have hq4 : q < w4.heap.size := HR4.lt
                clear ho4 hg4
                go_frame
                go_wp2_with fail
                refine (refNext _ q vl s l HR4 b false).mono ?_
                rintro e w5 ⟨b', f', rfl, HN', hb5⟩
                have HI5 : Hid (FInv w w5 (fs ++ [⟨b, v.val, v.rev⟩]) (.slice a' (fs.length + 1) cap')) := HI4.out.grow hb5
                clear hb5 HR4
                go_wp2_with fail
                exact ⟨⟨b', f', done ++ [b], rest', fs ++ [⟨b, v.val, v.rev⟩], rfl, rfl, HK2, HD2, HF2, by rw [List.length_append, List.length_singleton]; exact HLM.out, HNX2.out _ _ HN'.out, HI5⟩, HME2.out _ _ (HNX2.out _ _ HN'.out)⟩
        · have HFE : Hid (fs.length = most) := by show _ = _; omega
          have hd3 : decide ((fs.length : Int) < (most : Int)) = false := decide_eq_false (by omega)
          have hd4 : decide (fs.length < most) = false := decide_eq_false hlm
          clear hlm
          rcases hto with hto | hto
          · have ha1 : (hi.toList == []) = true := by rw [beq_iff_eq]; exact (nil_size _).2 hto
            have ha3 : hi.toList = [] := (nil_size _).2 hto
            clear hto
            go_wp2_with fail
            exact bodyPost_ret (v := .tuple #[.slice fa fs.length fcap, .int .i64 0]) (by simp [results, Try.results67, go_sem]) rfl ⟨_, rfl, HEND.out (.inl HFE.out)⟩
          · have ha2 : Op.bytesLess b.toList hi.toList = true := (bl_data _ _).2 hto
            clear hto
            go_wp2_with fail
            all_goals exact bodyPost_ret (v := .tuple #[.slice fa fs.length fcap, .int .i64 0]) (by simp [results, Try.results67, go_sem]) rfl ⟨_, rfl, HEND.out (.inl HFE.out)⟩
      · have ha1 : (hi.toList == []) = false := by rw [beq_eq_false_iff_ne]; exact fun e => hto (.inl ((nil_size _).1 e))
        have ha2 : Op.bytesLess b.toList hi.toList = false := by
          cases hb : Op.bytesLess b.toList hi.toList
          · rfl
          · exact absurd (.inr ((bl_data _ _).1 hb)) hto
        have HOUT : Hid (∀ y ∈ b :: rest', ¬ (hi.size = 0 ∨ y.data.toList < hi.data.toList)) := by
          intro y hy
          have hp := HKF.out.1
          rw [HK.out] at hp
          rintro (h | h)
          · exact hto (.inl h)
          · rcases List.mem_cons.1 hy with rfl | hy
            · exact hto (.inr h)
            · exact hto (.inr (List.lt_trans ((List.pairwise_cons.1 (List.pairwise_append.1 hp).2.1).1 y hy) h))
        clear hto
        go_wp2_with fail
        all_goals exact bodyPost_ret (v := .tuple #[.slice fa fs.length fcap, .int .i64 0]) (by simp [results, Try.results67, go_sem]) rfl ⟨_, rfl, HEND.out (.inr HOUT.out)⟩
end Go.Proofs.Ytcbbnmodjnnbeaa
/- The document's store: Save. -/
set_option linter.unusedSimpArgs false
set_option linter.unusedVariables false
namespace Go.Proofs.Ytcbbnmodjnnbeaa
open Go.RowKit

theorem refBit (w : World) (b : Bool) : Calls Try.prog 115 #[.bool b] w fun e w' => e = .returned (.int .i64 ((if b then 1 else 0 : Nat) : Int)) ∧ Below w.heap.size w w' := by
  cases b
  · go_enter Try.func115, Try.ntmps115
    go_wp2
    go_ret
    exact ⟨rfl, (by repeat (first | exact Below.refl _ _ | assumption | with_reducible refine below_drewN ?_ _ | refine Gr.ext ?_ _ | refine Gr.alloc ?_ _ | refine Gr.drew ?_ | (refine Gr.set ?_ (by first | (simp; done) | (simp; omega)) _)))⟩
  · go_enter Try.func115, Try.ntmps115
    go_wp2
    go_ret
    exact ⟨rfl, (by repeat (first | exact Below.refl _ _ | assumption | with_reducible refine below_drewN ?_ _ | refine Gr.ext ?_ _ | refine Gr.alloc ?_ _ | refine Gr.drew ?_ | (refine Gr.set ?_ (by first | (simp; done) | (simp; omega)) _)))⟩
set_option maxRecDepth 100000 in
set_option maxHeartbeats 8000000 in
theorem refSave (w : World) (q : Nat) (vl : Value) (s : St) (l : List KV) (h : RefAt w q vl s l) (hS : Sav s) :
    Calls Try.prog 69 #[.pointer (some ⟨q, 0, none⟩)] w fun e w' => ∃ ks, KeysIn s ks ∧ e = .returned (.string (B (saveL s ks))) ∧ Below w.heap.size w w' := by
  obtain ⟨a, cap, rfl⟩ := h.at_
  have H : Hid (RefAt w q (.slice a l.length cap) s l) := h
  have HS : Hid (Sav s) := hS
  obtain ⟨c0, c1, c2, cf⟩ := rs_cells h.blk
  have hq := h.lt
  have hlen := h.len
  have hrev := h.good.rev
  have hflo := h.good.floor
  clear h hS
  go_enter Try.func69, Try.ntmps69
  go_wp2_with fail
  refine wp_region_grows (by kernel_rfl) (by kernel_rfl) ?_
  repeat (first | quiet_step (fail) | (refine wpQuiet_step (fun K hK => ?_); go_simp; simp only [↓IntWalk.iteOmega]; go_simp; refine hK _ ?_; clear hK K))
  quiet_step (exact Calls.grows (num3 _ _ (by omega) (by omega)))
  repeat (first | quiet_step (fail) | (refine wpQuiet_step (fun K hK => ?_); go_simp; simp only [↓IntWalk.iteOmega]; go_simp; refine hK _ ?_; clear hK K))
  quiet_step (exact Calls.grows (num3 _ _ (by omega) (by omega)))
  repeat (first | quiet_step (fail) | (refine wpQuiet_step (fun K hK => ?_); go_simp; simp only [↓IntWalk.iteOmega]; go_simp; refine hK _ ?_; clear hK K))
  quiet_step (exact Calls.grows (num3 _ _ (by omega) (by omega)))
  repeat (first | quiet_step (fail) | (refine wpQuiet_step (fun K hK => ?_); go_simp; simp only [↓IntWalk.iteOmega]; go_simp; refine hK _ ?_; clear hK K))
  refine wpQuiet_nil ?_
  rintro _ ⟨x, rfl⟩
  go_wp2_with fail
  refine (refNext _ q _ s l (H.out.grown (by repeat (first | exact Below.refl _ _ | assumption | with_reducible refine below_drewN ?_ _ | refine Gr.ext ?_ _ | refine Gr.alloc ?_ _ | refine Gr.drew ?_ | (refine Gr.set ?_ (by first | (simp; done) | (simp; omega)) _)))) ⟨#[]⟩ true).mono ?_
  rintro e w1 ⟨b0, f0, rfl, HN, hb1⟩
  have HB1 : Hid (Below w.heap.size w w1) := (Below.of_ext w x).trans (hb1.mono (Below.of_ext w x).size)
  obtain ⟨kf, hks, hkm⟩ := H.out.tells.keys
  have HKI : Hid (KeysIn s kf) := ⟨hks, hkm⟩
  have HKF : Hid ((kf.Pairwise fun a b => a.data.toList < b.data.toList) ∧ ∀ k, k ∈ kf ↔ s.vers k ≠ [] ∧ (⟨#[]⟩ : ByteArray).data.toList ≤ k.data.toList) := ⟨hks, fun k => by rw [hkm]; exact ⟨fun h => ⟨h, nil_le k⟩, fun h => h.1⟩⟩
  have HNX : Hid ((f0 = false ∧ kf = []) ∨ (f0 = true ∧ ∃ rest', kf = b0 :: rest')) := next_first H.out.tells HKF.out.1 HKF.out.2 HN.out
  obtain ⟨hdr, hhdr⟩ : ∃ hdr, be 3 s.rev ++ (be 3 s.floor ++ be 3 l.length) = hdr := ⟨_, rfl⟩
  have HHD : Hid (be 3 s.rev ++ (be 3 s.floor ++ be 3 l.length) = hdr ∧ hdr.length = 9) := ⟨hhdr, by rw [← hhdr]; simp only [List.length_append, be_length]⟩
  have HI0 : Hid (hdr = hdr ++ versL s []) := by show _ = _; simp [versL]
  rw [hhdr]
  clear HN hb1 c0 c1 c2 cf hks hkm hhdr
  go_wp2_with fail
  go_loopw [3, 4, 5] (fun ov kv mv wr => ∃ (b : ByteArray) (f : Bool) (done rest : List ByteArray) (o : List UInt8), kv = .string b ∧ mv = .bool f ∧ ov = .string (B o) ∧ Hid (kf = done ++ rest) ∧ Hid (o = hdr ++ versL s done) ∧ Hid ((f = false ∧ rest = []) ∨ (f = true ∧ ∃ rest', rest = b :: rest')) ∧ Hid (Below w.heap.size w wr)) (fun _ kv mv _ => measK kf kv mv)
  case atStart => exact ⟨b0, f0, [], kf, hdr, rfl, rfl, rfl, rfl, HI0, HNX, HB1⟩
  case round =>
    clear HI0 HNX HB1
    obtain ⟨b, f, done, rest, o, rfl, rfl, rfl, HK, HO, HN, HB⟩ := hrel
    have HOL : Hid (o.length ≤ 30000000) := by
      have h1 := versL_len HS.out.bnd done fun x hx => (HKI.out.2 x).1 (by rw [HK.out]; exact List.mem_append_left _ hx)
      have hn : done.Nodup := (keys_nodup (s := s) HKI.out.1).sublist (by rw [HK.out]; exact List.sublist_append_left _ _)
      have h2 := HS.out.bnd.tot done hn
      have h3 := HS.out.bnd.good.rev
      have h4 := HHD.out.2
      show _ ≤ _
      rw [HO.out, List.length_append]
      unfold totN at h1; omega
    rcases HN.out with ⟨rfl, hrest⟩ | ⟨rfl, rest', hrest⟩
    · subst hrest
      have HDONE : Hid (done = kf) := by show _ = _; rw [HK.out, List.append_nil]
      have HO5 : Hid (o = hdr ++ versL s kf ++ (s.ss.take 0).flatMap sesL) := by show _ = _; rw [HO.out, HDONE.out]; simp
      have hss := HS.out.bnd.good.ss
      go_wp2_with fail
      go_loopw [3, 8] (fun ov iv wr2 => ∃ (m : Nat) (o2 : List UInt8), m ≤ 8 ∧ iv = .int .i64 ((m : Int) + 1) ∧ ov = .string (B o2) ∧ o2.length ≤ 30000000 + 7 * m ∧ Hid (o2 = hdr ++ versL s kf ++ (s.ss.take m).flatMap sesL) ∧ Hid (Below w.heap.size w wr2)) (fun _ iv _ => 9 - (intOf iv).toNat)
      case atStart => exact ⟨0, o, by omega, rfl, rfl, by have := HOL.out; omega, HO5, HB⟩
      case round =>
        clear HO5
        obtain ⟨m, o2, hm, rfl, rfl, hol, HO2, HB2⟩ := hrel
        by_cases hlt : m < 8
        · obtain ⟨c0, c1, c2, cf⟩ := rs_cells (H.out.grown HB2.out).blk
          obtain ⟨s0, s1, s2, s3⟩ := rs_sess (H.out.grown HB2.out).blk m (by rw [hss]; exact hlt)
          have hqr : q < wr.heap.size := (H.out.grown HB2.out).lt
          have hmem : ssAt s m ∈ s.ss := by
            unfold ssAt
            rw [List.getElem?_eq_getElem (by rw [hss]; exact hlt)]
            exact List.getElem_mem _
          have b1 := HS.out.bnd.seq _ hmem
          have b2 := HS.out.bnd.res _ hmem
          have HT : Hid (s.ss.take (m + 1) = s.ss.take m ++ [ssAt s m]) := by
            show _ = _
            unfold ssAt
            rw [List.take_add_one, List.getElem?_eq_getElem (by rw [hss]; exact hlt)]; rfl
          have hr9 : (ssAt s m).2.rev ≤ 1000000 := by omega
          have hr0 := b2.1
          generalize ssAt s m = x2 at *
          have HO3 : Hid (o2 ++ sesL x2 = hdr ++ versL s kf ++ (s.ss.take (m + 1)).flatMap sesL) := by show _ = _; rw [HT.out, List.flatMap_append, HO2.out]; simp
          have hm1 : (m : Int) < 8 := by omega
          clear b2 hmem HT
          go_wp2_with fail
          refine wp_region_grows (by kernel_rfl) (by kernel_rfl) ?_
          repeat (first | quiet_step (fail) | (refine wpQuiet_step (fun K hK => ?_); go_simp; simp only [↓IntWalk.iteOmega]; go_simp; refine hK _ ?_; clear hK K))
          quiet_step (exact Calls.grows (num3 _ _ (by omega) (by omega)))
          repeat (first | quiet_step (fail) | (refine wpQuiet_step (fun K hK => ?_); go_simp; simp only [↓IntWalk.iteOmega]; go_simp; refine hK _ ?_; clear hK K))
          quiet_step (exact Calls.grows (refBit _ _))
          repeat (first | quiet_step (fail) | (refine wpQuiet_step (fun K hK => ?_); go_simp; simp only [↓IntWalk.iteOmega]; go_simp; refine hK _ ?_; clear hK K))
          quiet_step (exact Calls.grows (num1 _ _ (by omega) (by split <;> omega)))
          repeat (first | quiet_step (fail) | (refine wpQuiet_step (fun K hK => ?_); go_simp; simp only [↓IntWalk.iteOmega]; go_simp; refine hK _ ?_; clear hK K))
          quiet_step (exact Calls.grows (num3 _ _ (by omega) (by omega)))
          repeat (first | quiet_step (fail) | (refine wpQuiet_step (fun K hK => ?_); go_simp; simp only [↓IntWalk.iteOmega]; go_simp; refine hK _ ?_; clear hK K))
          refine wpQuiet_nil ?_
          rintro _ ⟨x3, rfl⟩
          go_wp2_with fail
          refine ⟨⟨m + 1, o2 ++ sesL x2, by omega, val_int (by omega), by simp only [sesL, flag_be, List.append_assoc, Int.toNat_natCast], ?_, HO3, (by repeat (first | exact Below.refl _ _ | assumption | with_reducible refine below_drewN ?_ _ | refine Gr.ext ?_ _ | refine Gr.alloc ?_ _ | refine Gr.drew ?_ | (refine Gr.set ?_ (by first | (simp; done) | (simp; omega)) _)))⟩, by simp [intOf]; omega⟩
          simp only [sesL, flag_be, List.length_append, be_length]; omega
        · have hmm : m = 8 := by omega
          subst hmm
          have hfin : o2 = saveL s kf := by
            rw [HO2.out, ← hss, List.take_length]
            unfold saveL
            rw [← HHD.out.1, H.out.tells.tot HKI.out]
            simp only [List.append_assoc]
          subst hfin
          go_wp2_with fail
          exact bodyPost_ret (v := .string (B (saveL s kf))) (by simp [results, Try.results69, go_sem]) rfl ⟨kf, HKI.out, rfl, HB2.out⟩
    · subst hrest
      obtain ⟨c0, c1, c2, cf⟩ := rs_cells (H.out.grown HB.out).blk
      have hqr : q < wr.heap.size := (H.out.grown HB.out).lt
      go_wp2_with fail
      go_loopw [3, 6] (fun ov iv wr2 => ∃ (i : Nat) (o2 : List UInt8), i ≤ l.length ∧ iv = .int .i64 i ∧ ov = .string (B o2) ∧ Hid (o2 = o ++ (versOf (l.take i) b).flatMap (verL b)) ∧ Hid (Below w.heap.size w wr2)) (fun _ iv _ => l.length - (intOf iv).toNat)
      case atStart => exact ⟨0, o, Nat.zero_le _, rfl, rfl, (by show _ = _; simp [versOf]), HB⟩
      case round =>
        obtain ⟨i, o2, hi, rfl, rfl, HO2, HB2⟩ := hrel
        by_cases hlt : i < l.length
        · have hx := List.getElem?_eq_getElem hlt
          generalize l[i] = y at hx
          obtain ⟨g, rfl, hg, hr⟩ := kv_reads (H.out.grown HB2.out).own hx
          obtain ⟨d0, d1, d2, d3⟩ := kv_off hr
          clear c0 c1 c2 cf hqr
          obtain ⟨c0, c1, c2, cf⟩ := rs_cells (H.out.grown HB2.out).blk
          have hqr : q < wr.heap.size := (H.out.grown HB2.out).lt
          have hi1 : (i : Int) < l.length := by omega
          have HTK : Hid (versOf (l.take (i + 1)) b = versOf (l.take i) b ++ if b = y.1 then [y.2] else []) := by
            show _ = _
            rw [List.take_add_one, hx]
            show versOf (l.take i ++ [y]) b = _
            rw [versOf_app, versOf_one]
          have hvl : ∀ v ∈ versOf l b, v.val.size ≤ 8 := fun v hv => HS.out.bnd.val b v (by rw [H.out.tells.vers]; exact hv)
          have hkl : b.size ≤ 8 := HS.out.bnd.key b ((HKI.out.2 b).1 (by rw [HK.out]; simp))
          have hol : o2.length ≤ 60000000 := by
            have h1 := flat_len (verL b) (versOf (l.take i) b) 22 fun v hv => verL_len b v hkl (hvl v (by
              have := mem_versOf.1 hv
              exact mem_versOf.2 (List.mem_of_mem_take this)))
            have h2 : (versOf (l.take i) b).length ≤ l.length := by
              unfold versOf
              rw [List.length_map]
              exact Nat.le_trans (List.length_filter_le _ _) (by rw [List.length_take]; omega)
            have h3 := HOL.out
            rw [HO2.out, List.length_append]
            omega
          cases hbk : (y.1.toList == b.toList)
          · have hne : ¬ b = y.1 := fun e => by rw [tl_cmp, e, (beq_bytes _ _).2 rfl] at hbk; cases hbk
            have HO3 : Hid (o2 = o ++ (versOf (l.take (i + 1)) b).flatMap (verL b)) := by show _ = _; rw [HTK.out, if_neg hne, List.append_nil]; exact HO2.out
            clear hne hr hx hvl hkl
            go_wp2_with fail
            exact ⟨⟨i + 1, o2, by omega, val_int (by omega), rfl, HO3, (by repeat (first | exact Below.refl _ _ | assumption | with_reducible refine below_drewN ?_ _ | refine Gr.ext ?_ _ | refine Gr.alloc ?_ _ | refine Gr.drew ?_ | (refine Gr.set ?_ (by first | (simp; done) | (simp; omega)) _)))⟩, by simp [intOf]; omega⟩
          · have he : b = y.1 := by rw [tl_cmp, beq_bytes] at hbk; exact hbk.symm
            have hyv : y.2.val.size ≤ 8 := hvl y.2 (mem_versOf.2 (by rw [he]; exact List.mem_of_getElem? hx))
            have hyr : y.2.rev ≤ 1000000 := by
              have := (H.out.good.bd b y.2 (by rw [H.out.tells.vers]; exact mem_versOf.2 (by rw [he]; exact List.mem_of_getElem? hx))).2
              omega
            have HO3 : Hid (o2 ++ verL b y.2 = o ++ (versOf (l.take (i + 1)) b).flatMap (verL b)) := by show _ = _; rw [HTK.out, if_pos he, List.flatMap_append, HO2.out]; simp
            clear he hr hx hvl
            go_wp2_with fail
            refine wp_region_grows (by kernel_rfl) (by kernel_rfl) ?_
            repeat (first | quiet_step (fail) | (refine wpQuiet_step (fun K hK => ?_); go_simp; simp only [↓IntWalk.iteOmega]; go_simp; refine hK _ ?_; clear hK K))
            quiet_step (exact Calls.grows (refText b _ (by omega)))
            repeat (first | quiet_step (fail) | (refine wpQuiet_step (fun K hK => ?_); go_simp; simp only [↓IntWalk.iteOmega]; go_simp; refine hK _ ?_; clear hK K))
            quiet_step (exact Calls.grows (num3 _ _ (by omega) (by omega)))
            repeat (first | quiet_step (fail) | (refine wpQuiet_step (fun K hK => ?_); go_simp; simp only [↓IntWalk.iteOmega]; go_simp; refine hK _ ?_; clear hK K))
            quiet_step (exact Calls.grows (refBit _ _))
            repeat (first | quiet_step (fail) | (refine wpQuiet_step (fun K hK => ?_); go_simp; simp only [↓IntWalk.iteOmega]; go_simp; refine hK _ ?_; clear hK K))
            quiet_step (exact Calls.grows (num1 _ _ (by omega) (by split <;> omega)))
            repeat (first | quiet_step (fail) | (refine wpQuiet_step (fun K hK => ?_); go_simp; simp only [↓IntWalk.iteOmega]; go_simp; refine hK _ ?_; clear hK K))
            quiet_step (exact Calls.grows (refText y.2.val _ (by omega)))
            repeat (first | quiet_step (fail) | (refine wpQuiet_step (fun K hK => ?_); go_simp; simp only [↓IntWalk.iteOmega]; go_simp; refine hK _ ?_; clear hK K))
            refine wpQuiet_nil ?_
            rintro _ ⟨x3, rfl⟩
            go_wp2_with fail
            exact ⟨⟨i + 1, o2 ++ verL b y.2, by omega, val_int (by omega), by simp only [verL, flag_be, List.append_assoc], HO3, (by repeat (first | exact Below.refl _ _ | assumption | with_reducible refine below_drewN ?_ _ | refine Gr.ext ?_ _ | refine Gr.alloc ?_ _ | refine Gr.drew ?_ | (refine Gr.set ?_ (by first | (simp; done) | (simp; omega)) _)))⟩, by simp [intOf]; omega⟩
        · have hii : i = l.length := by omega
          subst hii
          rw [List.take_length] at HO2
          have hpw := HKF.out
          rw [HK.out] at hpw
          have HNX2 : Hid (∀ b' f', NextIs l b false b' f' → ((f' = false ∧ rest' = []) ∨ (f' = true ∧ ∃ rest'', rest' = b' :: rest''))) := fun b' f' h => next_after (lo := ⟨#[]⟩) H.out.tells hpw.1 hpw.2 h
          have HME : Hid (measK kf (.string b) (.bool true) = rest'.length + 1) := by show _ = _; rw [HK.out]; exact measK_at hpw.1
          have HK2 : Hid (kf = (done ++ [b]) ++ rest') := by show _ = _; rw [HK.out]; simp
          have HO4 : Hid (o2 = hdr ++ versL s (done ++ [b])) := by
            show _ = _
            rw [HO2.out, HO.out, versL, versL, List.flatMap_append, ← List.append_assoc, ← H.out.tells.vers b]
            simp
          have HME2 : Hid (∀ b' f', ((f' = false ∧ rest' = []) ∨ (f' = true ∧ ∃ rest'', rest' = b' :: rest'')) → measK kf (.string b') (.bool f') < measK kf (.string b) (.bool true)) := by
            intro b' f' h
            rw [HME.out]
            rcases h with ⟨rfl, _⟩ | ⟨rfl, rest'', e⟩
            · show 0 < _; omega
            · have hp2 := HKF.out.1
              rw [HK2.out, e] at hp2
              have e2 : measK kf (.string b') (.bool true) = rest''.length + 1 := by rw [HK2.out, e]; exact measK_at hp2
              rw [e2, e, List.length_cons]; omega
          clear c0 c1 c2 cf hqr
          obtain ⟨c0, c1, c2, cf⟩ := rs_cells (H.out.grown HB2.out).blk
          have hqr : q < wr.heap.size := (H.out.grown HB2.out).lt
          clear hpw
          go_wp2_with fail
          refine (refNext _ q _ s l (H.out.grown HB2.out) b false).mono ?_
          rintro e w5 ⟨b', f', rfl, HN', hb5⟩
          have HB5 : Hid (Below w.heap.size w w5) := HB2.out.trans (hb5.mono HB2.out.size)
          clear hb5
          go_wp2_with fail
          exact ⟨⟨b', f', done ++ [b], rest', o2, rfl, rfl, rfl, HK2, HO4, HNX2.out _ _ HN'.out, HB5⟩, HME2.out _ _ (HNX2.out _ _ HN'.out)⟩
end Go.Proofs.Ytcbbnmodjnnbeaa
