/- A command with texts of its own; records become part of a state. -/
import Derived.Test.YtcbbnmodjnnbeaaWalE
import Derived.Test.YtcbbnmodjnnbeaaOwnEty
import Derived.Test.YtcbbnmodjnnbeaaHeldM
set_option linter.unusedSimpArgs false
set_option linter.unusedVariables false
namespace Go.Proofs.Ytcbbnmodjnnbeaa
open Go.RowKit

set_option maxRecDepth 100000 in
set_option maxHeartbeats 4000000 in
theorem ownCommand (c : Cmd) (w : World) (hk : c.key.size ≤ 281474976710656) (hv : c.val.size ≤ 281474976710656) (ho : c.old.size ≤ 281474976710656) :
    Calls Try.prog 162 #[(.agg #[.int .i64 c.kind, .string c.key, .string c.val, .string c.old, .int .i64 c.rev, .int .i64 c.ses, .int .i64 c.seq])] w fun e w' => e = .returned (.agg #[.int .i64 c.kind, .string c.key, .string c.val, .string c.old, .int .i64 c.rev, .int .i64 c.ses, .int .i64 c.seq]) ∧ Below w.heap.size w w' := by
  have HK : Hid (c.key.size ≤ 281474976710656) := hk
  have HV : Hid (c.val.size ≤ 281474976710656) := hv
  have HO : Hid (c.old.size ≤ 281474976710656) := ho
  clear hk hv ho
  go_enter Try.func162, Try.ntmps162
  go_wp2_with fail
  refine wp_region_grows (by kernel_rfl) (by kernel_rfl) ?_
  repeat (first | quiet_step (fail) | (refine wpQuiet_step (fun K hK => ?_); go_simp; simp only [↓IntWalk.iteOmega]; go_simp; refine hK _ ?_; clear hK K))
  quiet_step (exact Calls.grows (stringsClone c.key _ HK.out))
  repeat (first | quiet_step (fail) | (refine wpQuiet_step (fun K hK => ?_); go_simp; simp only [↓IntWalk.iteOmega]; go_simp; refine hK _ ?_; clear hK K))
  quiet_step (exact Calls.grows (stringsClone c.val _ HV.out))
  repeat (first | quiet_step (fail) | (refine wpQuiet_step (fun K hK => ?_); go_simp; simp only [↓IntWalk.iteOmega]; go_simp; refine hK _ ?_; clear hK K))
  quiet_step (exact Calls.grows (stringsClone c.old _ HO.out))
  repeat (first | quiet_step (fail) | (refine wpQuiet_step (fun K hK => ?_); go_simp; simp only [↓IntWalk.iteOmega]; go_simp; refine hK _ ?_; clear hK K))
  refine wpQuiet_nil ?_
  rintro _ ⟨x, rfl⟩
  go_wp2_with fail
  exact bodyPost_ret (v := (.agg #[.int .i64 c.kind, .string c.key, .string c.val, .string c.old, .int .i64 c.rev, .int .i64 c.ses, .int .i64 c.seq])) (by simp [results, Try.results162, go_sem]) rfl ⟨rfl, (by repeat (first | exact Below.refl _ _ | assumption | with_reducible refine below_drewN ?_ _ | refine Gr.ext ?_ _ | refine Gr.alloc ?_ _ | refine Gr.drew ?_ | (refine Gr.set ?_ (by first | (simp; done) | (simp; omega)) _)))⟩

/-! ### A state in memory -/
def Ety.cells (e : Ety) : List Value := .int .i64 e.term :: e.cmd.cells
def WSt.cellsA (S : WSt) (lv : Value) : List Value := [.int .i64 S.gen, .int .i64 S.term, .int .i64 S.vote, .int .i64 S.base, .int .i64 S.bterm, .string S.data, lv]
structure StaAt (w : World) (b o : Nat) (pre : List Value) (T : TypeId) (lv : Value) (S : WSt) : Prop where
  blk : w.heap[b]? = some (.cells (pre ++ S.cellsA lv).toArray T)
  len : pre.length = o
  log : w.ownL 135 8 lv (S.log.map Ety.cells)
  sep : lv.ownBlock ≠ some b
section
variable {w w' : World} {b o : Nat} {pre : List Value} {T : TypeId} {lv : Value} {S : WSt}
theorem StaAt.lt (h : StaAt w b o pre T lv S) : b < w.heap.size := (Array.getElem?_eq_some_iff.1 h.blk).1
theorem StaAt.keep (h : StaAt w b o pre T lv S) (hb : w'.heap[b]? = w.heap[b]?) (hl : ∀ k, lv.ownBlock = some k → w'.heap[k]? = w.heap[k]?) : StaAt w' b o pre T lv S := ⟨hb.trans h.blk, h.len, h.log.keep hl, h.sep⟩
theorem StaAt.grown (h : StaAt w b o pre T lv S) (hb : Below w.heap.size w w') : StaAt w' b o pre T lv S := h.keep (hb.block b h.lt) fun k hk => hb.block k (h.log.lt hk)
theorem StaAt.cell (h : StaAt w b o pre T lv S) (i : Nat) (u : Value) (hu : (S.cellsA lv)[i]? = some u) : w.cell? ⟨b, o + i, none⟩ = some u := by
  have e : (pre ++ S.cellsA lv)[o + i]? = some u := by rw [List.getElem?_append_right (by rw [h.len]; omega), h.len, Nat.add_sub_cancel_left]; exact hu
  simp only [World.cell?, h.blk]
  simpa using e
theorem StaAt.cells (h : StaAt w b o pre T lv S) : w.cell? ⟨b, o, none⟩ = some (.int .i64 S.gen) ∧ w.cell? ⟨b, o + 1, none⟩ = some (.int .i64 S.term) ∧ w.cell? ⟨b, o + 2, none⟩ = some (.int .i64 S.vote) ∧ w.cell? ⟨b, o + 3, none⟩ = some (.int .i64 S.base) ∧ w.cell? ⟨b, o + 4, none⟩ = some (.int .i64 S.bterm) ∧ w.cell? ⟨b, o + 5, none⟩ = some (.string S.data) ∧ w.cell? ⟨b, o + 6, none⟩ = some lv ∧ ∀ q, w.frozen? ⟨b, q, none⟩ = false :=
  ⟨h.cell 0 _ rfl, h.cell 1 _ rfl, h.cell 2 _ rfl, h.cell 3 _ rfl, h.cell 4 _ rfl, h.cell 5 _ rfl, h.cell 6 _ rfl, fun q => by simp [World.frozen?, h.blk]⟩
theorem set_pre (pre l : List Value) (i : Nat) (v : Value) (o : Nat) (ho : pre.length = o) : (pre ++ l).toArray.setIfInBounds (o + i) v = (pre ++ l.set i v).toArray := by
  simp only [List.setIfInBounds_toArray, Array.mk.injEq]
  rw [List.set_append_right _ _ (by omega), ho, Nat.add_sub_cancel_left]
end
theorem ownL_eq {w : World} {e : TypeId} {sz : Nat} {v : Value} {cs cs' : List (List Value)} (h : w.ownL e sz v cs) (he : cs = cs') : w.ownL e sz v cs' := he ▸ h
theorem ownL_upto {w : World} {e : TypeId} {sz : Nat} {a : Option Addr} {n cap : Nat} {cs : List (List Value)} (h : w.ownL e sz (.slice a n cap) cs) {m : Nat} (hm : m ≤ n) : n = cs.length ∧ w.ownL e sz (.slice a m cap) (cs.take m) := by
  have hn : n = cs.length := by
    rcases h.1.2 with ⟨h1, h2⟩ | ⟨g, c, cur, hv, _⟩
    · injection h1 with _ h3; omega
    · injection hv
  refine ⟨hn, ?_, fun c hc => h.2 c (List.mem_of_mem_take hc)⟩
  have hl : (cs.take m).length = m := by rw [List.length_take]; omega
  have hf : (cs.take m).flatten = cs.flatten.take (m * sz) := by
    have e1 : cs.flatten = (cs.take m).flatten ++ (cs.drop m).flatten := by rw [← List.flatten_append, List.take_append_drop]
    have e2 := flatten_len sz (cs.take m) fun c hc => h.2 c (List.mem_of_mem_take hc)
    rw [hl] at e2
    rw [e1, ← e2, List.take_left]
  refine ⟨by rw [hl, flatten_len sz _ fun c hc => h.2 c (List.mem_of_mem_take hc), hl], ?_⟩
  rcases h.1.2 with ⟨h1, h2⟩ | ⟨g, c, cur, hv, h1, h2, h3, h4, h5, h6⟩
  · injection h1 with h1 h3 h4
    left
    rw [hl]
    have : m = 0 := by omega
    subst this
    exact ⟨by rw [h1, h4], rfl⟩
  · injection hv with e1 e2 e3
    subst e1 e3
    have := Nat.mul_le_mul_right sz hm
    refine .inr ⟨g, cap, cur, by rw [hl], h1, h2, by rw [hl]; omega, h4, h5, ?_⟩
    rw [hl, hf, ← h6, List.take_take, ← hn, Nat.min_eq_left this]
theorem wpO_new {P : Program} {w : World} {o : Oper} {a : Act} {K : Act → World → Prop} {Q : Exit → Act → World → Prop} (sl xo : Operand) (t : TypeId)
    (ho : o.op = .call { callee := .builtin .append, args := #[sl, xo], argTypes := #[t, t] }) (e : TypeId) (sz by_ : Nat) (z : Value) (ht : P.underlying t = some (.slice e)) (hinfo : (P.info? e).map (fun i => (i.zero, i.size, i.bytes)) = some (some z, sz, by_)) (hz : z.cells.size = sz) (hsz : 0 < sz)
    (v : Value) (cs : List (List Value)) (hv : a.eval sl = v) (hown : w.ownL e sz v cs)
    (c : Array Value) (b : Nat) (hx : a.eval xo = .slice (some ⟨b, 0, none⟩) 1 1) (hc : w.heap[b]? = some (.cells c e)) (hcl : c.size = sz) (h1 : ∀ u ∈ c.toList, u.oneCell' = true) (hlen : cs.length + 1 ≤ maxLen) (hby : (cs.length + 1) * by_ ≤ 140737488355328)
    (h : ∀ a' n' cap' w', w'.ownL e sz (.slice a' n' cap') (cs ++ [c.toList]) → Grew w w' v (.slice a' n' cap') → K (a.put o.dst (.slice a' n' cap')) w') : o.wp P a w K Q := by
  obtain ⟨i, hi, hz', h1', hb⟩ := info_parts hinfo
  obtain ⟨v', w', hr, h2, h3, h4⟩ := run_append_grew2 (P := P) w 0 t t o.type e i z ht hi hz' (by rw [h1']; exact hz) (by omega) v cs.length cs.flatten (by rw [h1']; exact hown.1) (.slice (some ⟨b, 0, none⟩) 1 1) 1 c.toList
    (by rw [h1']; exact Src.ofSlice w ht _ 1 1 _ (by simp [hcl]) (fun j u hj => by rw [Addr.add_lit]; simp only [World.cell?, hc, Nat.zero_add]; simpa using hj) h1) hlen (by rw [hb]; exact hby) (Nat.zero_le _)
  have hl : w'.ownL e sz v' (cs ++ [c.toList]) := by
    refine ⟨?_, fun x hx => ?_⟩
    · rw [← h1', List.length_append, List.flatten_append]; simpa using h2
    · rcases List.mem_append.1 hx with hx | hx
      · exact hown.2 x hx
      · rw [List.mem_singleton.1 hx]; simpa using hcl
  obtain ⟨a', cap', hv'⟩ := hl.len
  subst hv'
  unfold Oper.wp execOp
  simp only [ho, resolve, invoke, builtin, Sem.run_bind, Sem.run_pure, Result.andThen_ok, List.map_toArray, List.map_cons, List.map_nil, hv, hx, hr]
  exact h _ _ _ _ hl h3
/-- What a part of a walk over records leaves of a state's block. -/
def StOut (w w' : World) (b o : Nat) (pre : List Value) (T : TypeId) (lv : Value) (S' : WSt) : Prop :=
  ∃ lv', StaAt w' b o pre T lv' S' ∧ (∀ k, lv'.ownBlock = some k → lv.ownBlock = some k ∨ w.heap.size ≤ k) ∧ w.turned w' (fun k => k = b ∨ lv.ownBlock = some k)
set_option maxRecDepth 100000 in
set_option maxHeartbeats 2000000 in
theorem walTakeItem (w : World) (b o : Nat) (pre : List Value) (T : TypeId) (lv : Value) (S : WSt) (h : StaAt w b o pre T lv S) (r : Rec) (hk3 : r.kind = 3) (hr : r.may = true) (hb0 : -9000000000 ≤ S.base ∧ S.base ≤ 9000000000) (hn : S.log.length ≤ 1000000000) :
    Calls Try.prog 143 #[.pointer (some ⟨b, o, none⟩), (.agg #[.int .i64 r.kind, .int .i64 r.gen, .int .i64 r.index, .int .i64 r.term, .int .i64 r.vote, .int .i64 r.many, .int .i64 r.cmd.kind, .string r.cmd.key, .string r.cmd.val, .string r.cmd.old, .int .i64 r.cmd.rev, .int .i64 r.cmd.ses, .int .i64 r.cmd.seq, .string r.data])] w fun e w' => e = .returned (.tuple #[]) ∧ StOut w w' b o pre T lv (S.one r) := by
  have H : Hid (StaAt w b o pre T lv S) := h
  obtain ⟨q0, q1, q2, q3, q4, q5, q6, qf⟩ := h.cells
  have hbl := h.lt
  obtain ⟨a, cap, hv⟩ := h.log.len
  rw [List.length_map] at hv
  subst hv
  clear h
  have hi := rec_bd3 r hr hk3
  have HK3 : Hid (r.kind = 3) := hk3
  obtain ⟨d, hd⟩ : ∃ d : Int, d = r.index - S.base - 1 := ⟨_, rfl⟩
  have w1 : IntKind.i64.wrap (IntKind.i64.wrap (r.index - S.base) - 1) = d := by rw [wrap_id (r.index - S.base) (by omega) (by omega), wrap_id _ (by omega) (by omega), hd]
  have HD : Hid (d = r.index - S.base - 1) := hd
  have HI : Hid (0 ≤ r.index ∧ r.index ≤ 1000000 ∧ r.cmd.may = true) := ⟨by omega, hi.2.1, hi.2.2.2.2⟩
  have HB0 : Hid (-9000000000 ≤ S.base ∧ S.base ≤ 9000000000) := hb0
  have HR : Hid (r.may = true) := hr
  have HNL : Hid (S.log.length ≤ 1000000000) := hn
  clear hk3 hd hi hb0 hr
  by_cases hin : 0 ≤ d ∧ d ≤ S.log.length
  · obtain ⟨m, rfl⟩ := Int.eq_ofNat_of_zero_le hin.1
    have hm : m ≤ S.log.length := by omega
    have HS : Hid (S.one r = { S with log := S.log.take m ++ [⟨r.term, r.cmd⟩] }) := by
      show _ = _
      have := HD.out
      unfold WSt.one
      rw [if_neg (by rw [HK3.out]; decide), if_pos ⟨HK3.out, by omega, by omega⟩, ← HD.out]
      rfl
    have hm' : (m : Int) ≤ S.log.length := by omega
    have hcap : S.log.length ≤ cap := by
      rcases H.out.log.1.2 with ⟨h1, h2⟩ | ⟨g, c, cur, hv, h1, h2, h3, h4, h5, h6⟩
      · rw [List.length_map] at h2; omega
      · injection hv with _ _ e; rw [List.length_map] at h3; omega
    clear hin hn
    go_enter Try.func143, Try.ntmps143
    go_wp2_with fail
    go_region_held3 (fun w' => w'.cell? ⟨b, o + 3, none⟩ = some (.int .i64 S.base) ∧ w'.cell? ⟨w.heap.size, 2, none⟩ = some (.int .i64 r.index)) (go_keep) (fail)
    go_wp2_with fail
    refine world_any (F := fun W => Below w.heap.size w W ∧ W.heap[w.heap.size]? = some (.cells #[.int .i64 r.kind, .int .i64 r.gen, .int .i64 r.index, .int .i64 r.term, .int .i64 r.vote, .int .i64 r.many, .int .i64 r.cmd.kind, .string r.cmd.key, .string r.cmd.val, .string r.cmd.old, .int .i64 r.cmd.rev, .int .i64 r.cmd.ses, .int .i64 r.cmd.seq, .string r.data] 25)) ⟨(by repeat (first | exact Below.refl _ _ | assumption | with_reducible refine below_drewN ?_ _ | refine Gr.ext ?_ _ | refine Gr.alloc ?_ _ | refine Gr.drew ?_ | (refine Gr.set ?_ (by first | (simp; done) | (simp; omega)) _))), Hp.drew (heap_alloc_new w _)⟩ ?_
    rintro W1 ⟨hB1, hz1⟩
    have H1 : Hid (StaAt W1 b o pre T (.slice a S.log.length cap) S) := H.out.grown hB1
    have HB1 : Hid (Below w.heap.size w W1) := hB1
    obtain ⟨z, hz⟩ : ∃ z, z = w.heap.size := ⟨_, rfl⟩
    rw [← hz] at hz1 ⊢
    have HZ : Hid (z = w.heap.size) := hz
    have HZ1 : Hid (W1.heap[z]? = some (.cells #[.int .i64 r.kind, .int .i64 r.gen, .int .i64 r.index, .int .i64 r.term, .int .i64 r.vote, .int .i64 r.many, .int .i64 r.cmd.kind, .string r.cmd.key, .string r.cmd.val, .string r.cmd.old, .int .i64 r.cmd.rev, .int .i64 r.cmd.ses, .int .i64 r.cmd.seq, .string r.data] 25)) := hz1
    clear q0 q1 q2 q3 q4 q5 q6 qf hB1 hz
    obtain ⟨-, -, -, -, -, -, q6, qf⟩ := H1.out.cells
    obtain ⟨-, -, -, z3, -, -, z6, z7, z8, z9, z10, z11, z12, -⟩ := rec_at hz1
    have hb1 := H1.out.lt
    have hzl : z < W1.heap.size := (Array.getElem?_eq_some_iff.1 hz1).1
    have HL1 : Hid (W1.ownL 135 8 (.slice a m cap) ((S.log.map Ety.cells).take m)) := (ownL_upto H1.out.log hm).2
    have HC : Hid (r.cmd.key.size ≤ 281474976710656 ∧ r.cmd.val.size ≤ 281474976710656 ∧ r.cmd.old.size ≤ 281474976710656) := by
      have := cmd_bd r.cmd HI.out.2.2
      exact ⟨by have := this.key; omega, by have := this.val; omega, by have := this.old; omega⟩
    have ha : a = none ∨ ∃ g, a = some ⟨g, 0, none⟩ := by
      rcases H1.out.log.1.2 with ⟨h1, h2⟩ | ⟨g, c, cur, hv, _⟩
      · injection h1 with h1; exact .inl h1
      · injection hv with h1; exact .inr ⟨g, h1⟩
    have hmc : (m : Int) ≤ (cap : Int) := by omega
    have hm0 : (0 : Int) ≤ (m : Int) := by omega
    clear hz1
    have hone : ∀ u ∈ (#[.int .i64 r.term, .int .i64 r.cmd.kind, .string r.cmd.key, .string r.cmd.val, .string r.cmd.old, .int .i64 r.cmd.rev, .int .i64 r.cmd.ses, .int .i64 r.cmd.seq] : Array Value).toList, u.oneCell' = true := by
      intro u hu
      simp only [List.mem_cons, List.not_mem_nil, or_false] at hu
      rcases hu with rfl | rfl | rfl | rfl | rfl | rfl | rfl | rfl <;> rfl
    have hln : ((S.log.map Ety.cells).take m).length = m := by rw [List.length_take, List.length_map]; omega
    have HLN : Hid (((S.log.map Ety.cells).take m).length = m) := hln
    have HBD : Hid (((S.log.map Ety.cells).take m).length + 1 ≤ maxLen ∧ (((S.log.map Ety.cells).take m).length + 1) * 88 ≤ 140737488355328) := by
      have := HNL.out
      refine ⟨?_, ?_⟩ <;> rw [hln] <;> (try unfold maxLen) <;> omega
    clear hln
    have HNB : Hid (∀ k, (k = b ∨ k = z) → (Value.slice a m cap).ownBlock ≠ some k) := by
      intro k hk e
      have e' : (Value.slice a S.log.length cap).ownBlock = some k := by cases a <;> exact e
      rcases hk with rfl | rfl
      · exact H1.out.sep e'
      · have := H.out.log.lt e'; have := HZ.out; omega
    have hzb : b ≠ z := fun e => by have := HZ.out; omega
    have HSS : Hid (∀ w', Below W1.heap.size W1 w' → w'.cell? ⟨b, o + 6, none⟩ = some (.slice a S.log.length cap) ∧ w'.cell? ⟨z, 3, none⟩ = some (.int .i64 r.term) ∧ w'.cell? ⟨z, 6, none⟩ = some (.int .i64 r.cmd.kind) ∧ w'.cell? ⟨z, 7, none⟩ = some (.string r.cmd.key) ∧ w'.cell? ⟨z, 8, none⟩ = some (.string r.cmd.val) ∧ w'.cell? ⟨z, 9, none⟩ = some (.string r.cmd.old) ∧ w'.cell? ⟨z, 10, none⟩ = some (.int .i64 r.cmd.rev) ∧ w'.cell? ⟨z, 11, none⟩ = some (.int .i64 r.cmd.ses) ∧ w'.cell? ⟨z, 12, none⟩ = some (.int .i64 r.cmd.seq)) := by
      intro w' hb
      have hB := hb.block b hb1
      have hZ := hb.block z hzl
      exact ⟨(World.cell?_of_block (a := ⟨b, o + 6, none⟩) hB).trans q6, (World.cell?_of_block (a := ⟨z, 3, none⟩) hZ).trans z3, (World.cell?_of_block (a := ⟨z, 6, none⟩) hZ).trans z6, (World.cell?_of_block (a := ⟨z, 7, none⟩) hZ).trans z7, (World.cell?_of_block (a := ⟨z, 8, none⟩) hZ).trans z8, (World.cell?_of_block (a := ⟨z, 9, none⟩) hZ).trans z9, (World.cell?_of_block (a := ⟨z, 10, none⟩) hZ).trans z10, (World.cell?_of_block (a := ⟨z, 11, none⟩) hZ).trans z11, (World.cell?_of_block (a := ⟨z, 12, none⟩) hZ).trans z12⟩
    have HFIN : Hid (∀ (w2 w3 : World) (a3 : Option Addr) (n3 cap3 : Nat), Below W1.heap.size W1 w2 → w3.ownL 135 8 (.slice a3 n3 cap3) ((S.log.map Ety.cells).take m ++ [#[.int .i64 r.term, .int .i64 r.cmd.kind, .string r.cmd.key, .string r.cmd.val, .string r.cmd.old, .int .i64 r.cmd.rev, .int .i64 r.cmd.ses, .int .i64 r.cmd.seq].toList]) → Grew (w2.alloc (.cells #[.int .i64 r.term, .int .i64 r.cmd.kind, .string r.cmd.key, .string r.cmd.val, .string r.cmd.old, .int .i64 r.cmd.rev, .int .i64 r.cmd.ses, .int .i64 r.cmd.seq] 135)) w3 (.slice a m cap) (.slice a3 n3 cap3) → StOut w (w3.setCell ⟨b, o + 6, none⟩ (.slice a3 n3 cap3)) b o pre T (.slice a S.log.length cap) (S.one r)) := by
      intro w2 w3 a3 n3 cap3 hb2 ho3 hg3
      have hs2 : W1.heap.size ≤ w2.heap.size := hb2.size
      have hB3 := (hg3.keep (by simp; omega) (HNB.out b (.inl rfl))).trans ((Below.heap_alloc _ _ _ (by omega)).trans (hb2.block b hb1))
      have hbW := H1.out.blk
      have ow : (Value.slice a S.log.length cap).ownBlock = (Value.slice a m cap).ownBlock := by cases a <;> rfl
      have hlt : w.heap.size ≤ W1.heap.size := HB1.out.size
      refine ⟨.slice a3 n3 cap3, ?_, ?_, ?_⟩
      · have nb : (Value.slice a3 n3 cap3).ownBlock ≠ some b := fun e => by
          rcases hg3.own with h | h
          · exact HNB.out b (.inl rfl) (h ▸ e)
          · have := h b e; simp at this; omega
        rw [HS.out]
        refine ⟨?_, H1.out.len, ownL_eq (World.ownL.set ho3 (p := ⟨b, o + 6, none⟩) nb _) (by rw [List.map_append, List.map_take]; rfl), nb⟩
        rw [cells_set (hB3.trans hbW), set_pre pre _ 6 _ o H1.out.len]
        rfl
      · intro k hk
        rcases hg3.own with h | h
        · rw [ow]; exact .inl (h ▸ hk)
        · have := h k hk; simp at this; exact .inr (by omega)
      · refine turned_set (S := fun k => k = b ∨ (Value.slice a S.log.length cap).ownBlock = some k) ?_ (.inl rfl) _
        refine World.turned.grew (v := .slice a m cap) (((World.turned.of_below HB1.out _).trans (World.turned.of_below hb2 (fun _ => False)) fun _ _ h => h.elim).alloc _) hg3 fun k hk e => .inr (by rw [ow]; exact e)
    rcases ha with rfl | ⟨ga, rfl⟩
    · refine wp_region_until (fun w' => w'.cell? ⟨b, o + 6, none⟩ = some (.slice none S.log.length cap) ∧ w'.cell? ⟨z, 3, none⟩ = some (.int .i64 r.term) ∧ w'.cell? ⟨z, 6, none⟩ = some (.int .i64 r.cmd.kind) ∧ w'.cell? ⟨z, 7, none⟩ = some (.string r.cmd.key) ∧ w'.cell? ⟨z, 8, none⟩ = some (.string r.cmd.val) ∧ w'.cell? ⟨z, 9, none⟩ = some (.string r.cmd.old) ∧ w'.cell? ⟨z, 10, none⟩ = some (.int .i64 r.cmd.rev) ∧ w'.cell? ⟨z, 11, none⟩ = some (.int .i64 r.cmd.ses) ∧ w'.cell? ⟨z, 12, none⟩ = some (.int .i64 r.cmd.seq)) 17 (by kernel_rfl) ?_
      have HS0 := HSS.out W1.drew (World.turned.below (turned_drew (fun _ => False)) (fun _ _ h => h))
      refine wpUntil.take (i := 0) (v := (.pointer (some ⟨b, o, none⟩))) rfl (by decide) (by kernel_rfl) (by kernel_rfl) (by kernel_rfl) (by kernel_rfl) (fun _ _ _ h => h) (Or.inl ⟨by rfl, fun w hSw => ?hy0⟩) HS0 ?_
      case hy0 => (try dsimp only at hSw); go_simp
      simp only [Act.put, List.getElem_toArray, List.getElem_cons_zero, List.getElem_cons_succ, List.setIfInBounds_toArray, List.set_cons_zero, List.set_cons_succ]
      refine wpUntil.take (i := 1) (v := (.pointer (some ⟨b, o, none⟩))) rfl (by decide) (by kernel_rfl) (by kernel_rfl) (by kernel_rfl) (by kernel_rfl) (fun _ _ _ h => h) (Or.inl ⟨by rfl, fun w hSw => ?hy1⟩) HS0 ?_
      case hy1 => (try dsimp only at hSw); go_simp
      simp only [Act.put, List.getElem_toArray, List.getElem_cons_zero, List.getElem_cons_succ, List.setIfInBounds_toArray, List.set_cons_zero, List.set_cons_succ]
      refine wpUntil.take (i := 2) (v := (.pointer (some ⟨b, o, none⟩))) rfl (by decide) (by kernel_rfl) (by kernel_rfl) (by kernel_rfl) (by kernel_rfl) (fun _ _ _ h => h) (Or.inl ⟨by rfl, fun w hSw => ?hy2⟩) HS0 ?_
      case hy2 => (try dsimp only at hSw); go_simp
      simp only [Act.put, List.getElem_toArray, List.getElem_cons_zero, List.getElem_cons_succ, List.setIfInBounds_toArray, List.set_cons_zero, List.set_cons_succ]
      refine wpUntil.take (i := 3) (v := (.pointer (some ⟨b, o + 6, none⟩))) rfl (by decide) (by kernel_rfl) (by kernel_rfl) (by kernel_rfl) (by kernel_rfl) (fun _ _ _ h => h) (Or.inl ⟨by rfl, fun w hSw => ?hy3⟩) HS0 ?_
      case hy3 => (try dsimp only at hSw); go_simp
      simp only [Act.put, List.getElem_toArray, List.getElem_cons_zero, List.getElem_cons_succ, List.setIfInBounds_toArray, List.set_cons_zero, List.set_cons_succ]
      refine wpUntil.take (i := 4) (v := (.slice none S.log.length cap)) rfl (by decide) (by kernel_rfl) (by kernel_rfl) (by kernel_rfl) (by kernel_rfl) (fun _ _ _ h => h) (Or.inl ⟨by rfl, fun w hSw => ?hy4⟩) HS0 ?_
      case hy4 => (try dsimp only at hSw); go_simp
      simp only [Act.put, List.getElem_toArray, List.getElem_cons_zero, List.getElem_cons_succ, List.setIfInBounds_toArray, List.set_cons_zero, List.set_cons_succ]
      refine wpUntil.take (i := 5) (v := (.int .i64 m)) rfl (by decide) (by kernel_rfl) (by kernel_rfl) (by kernel_rfl) (by kernel_rfl) (fun _ _ _ h => h) (Or.inl ⟨by rfl, fun w hSw => ?hy5⟩) HS0 ?_
      case hy5 => (try dsimp only at hSw); go_simp
      simp only [Act.put, List.getElem_toArray, List.getElem_cons_zero, List.getElem_cons_succ, List.setIfInBounds_toArray, List.set_cons_zero, List.set_cons_succ]
      refine wpUntil.take (i := 6) (v := (.slice none m cap)) rfl (by decide) (by kernel_rfl) (by kernel_rfl) (by kernel_rfl) (by kernel_rfl) (fun _ _ _ h => h) (Or.inl ⟨by rfl, fun w hSw => ?hy6⟩) HS0 ?_
      case hy6 => (try dsimp only at hSw); go_simp
      simp only [Act.put, List.getElem_toArray, List.getElem_cons_zero, List.getElem_cons_succ, List.setIfInBounds_toArray, List.set_cons_zero, List.set_cons_succ]
      refine wpUntil.take (i := 7) (v := (.pointer (some ⟨z, 3, none⟩))) rfl (by decide) (by kernel_rfl) (by kernel_rfl) (by kernel_rfl) (by kernel_rfl) (fun _ _ _ h => h) (Or.inl ⟨by rfl, fun w hSw => ?hy7⟩) HS0 ?_
      case hy7 => (try dsimp only at hSw); go_simp
      simp only [Act.put, List.getElem_toArray, List.getElem_cons_zero, List.getElem_cons_succ, List.setIfInBounds_toArray, List.set_cons_zero, List.set_cons_succ]
      refine wpUntil.take (i := 8) (v := (.int .i64 r.term)) rfl (by decide) (by kernel_rfl) (by kernel_rfl) (by kernel_rfl) (by kernel_rfl) (fun _ _ _ h => h) (Or.inl ⟨by rfl, fun w hSw => ?hy8⟩) HS0 ?_
      case hy8 => (try dsimp only at hSw); go_simp
      simp only [Act.put, List.getElem_toArray, List.getElem_cons_zero, List.getElem_cons_succ, List.setIfInBounds_toArray, List.set_cons_zero, List.set_cons_succ]
      refine wpUntil.take (i := 9) (v := (.pointer (some ⟨z, 6, none⟩))) rfl (by decide) (by kernel_rfl) (by kernel_rfl) (by kernel_rfl) (by kernel_rfl) (fun _ _ _ h => h) (Or.inl ⟨by rfl, fun w hSw => ?hy9⟩) HS0 ?_
      case hy9 => (try dsimp only at hSw); go_simp
      simp only [Act.put, List.getElem_toArray, List.getElem_cons_zero, List.getElem_cons_succ, List.setIfInBounds_toArray, List.set_cons_zero, List.set_cons_succ]
      refine wpUntil.take (i := 10) (v := (.agg #[.int .i64 r.cmd.kind, .string r.cmd.key, .string r.cmd.val, .string r.cmd.old, .int .i64 r.cmd.rev, .int .i64 r.cmd.ses, .int .i64 r.cmd.seq])) rfl (by decide) (by kernel_rfl) (by kernel_rfl) (by kernel_rfl) (by kernel_rfl) (fun _ _ _ h => h) (Or.inl ⟨by rfl, fun w hSw => ?hy10⟩) HS0 ?_
      case hy10 => (try dsimp only at hSw); go_simp
      simp only [Act.put, List.getElem_toArray, List.getElem_cons_zero, List.getElem_cons_succ, List.setIfInBounds_toArray, List.set_cons_zero, List.set_cons_succ]
      refine wpUntil.only (i := 11) rfl (by kernel_rfl) (by rfl) ?_
      simp only [Act.put, List.getElem_toArray, List.getElem_cons_zero, List.getElem_cons_succ, List.setIfInBounds_toArray, List.set_cons_zero, List.set_cons_succ]
      go_simp
      refine (ownCommand r.cmd _ HC.out.1 HC.out.2.1 HC.out.2.2).mono ?_
      rintro e w2 ⟨rfl, hb2'⟩
      have hb2 : Below W1.heap.size W1 w2 := ⟨hb2'.os, hb2'.tape, hb2'.output, hb2'.size, hb2'.block⟩
      clear hb2' HS0
      have HS0 := HSS.out w2 hb2
      refine ⟨HS0, ?_⟩
      refine wpUntil.take (i := 12) (v := (.agg #[.int .i64 r.term, .int .i64 r.cmd.kind, .string r.cmd.key, .string r.cmd.val, .string r.cmd.old, .int .i64 r.cmd.rev, .int .i64 r.cmd.ses, .int .i64 r.cmd.seq])) rfl (by decide) (by kernel_rfl) (by kernel_rfl) (by kernel_rfl) (by kernel_rfl) (fun _ _ _ h => h) (Or.inl ⟨by rfl, fun w hSw => ?hy12⟩) HS0 ?_
      case hy12 => (try dsimp only at hSw); go_simp
      simp only [Act.put, List.getElem_toArray, List.getElem_cons_zero, List.getElem_cons_succ, List.setIfInBounds_toArray, List.set_cons_zero, List.set_cons_succ]
      refine wpUntil.only (i := 13) rfl (by kernel_rfl) (by rfl) ?_
      simp only [Act.put, List.getElem_toArray, List.getElem_cons_zero, List.getElem_cons_succ, List.setIfInBounds_toArray, List.set_cons_zero, List.set_cons_succ]
      go_simp
      have hs2 : W1.heap.size ≤ w2.heap.size := hb2.size
      have hb3 : Below W1.heap.size W1 (w2.alloc (.cells #[.int .i64 r.term, .int .i64 r.cmd.kind, .string r.cmd.key, .string r.cmd.val, .string r.cmd.old, .int .i64 r.cmd.rev, .int .i64 r.cmd.ses, .int .i64 r.cmd.seq] 135)) := hb2.alloc hs2 _
      clear HS0
      have HS0 := HSS.out _ hb3
      refine ⟨HS0, ?_⟩
      refine wpUntil.only (i := 14) rfl (by kernel_rfl) (by rfl) ?_
      simp only [Act.put, List.getElem_toArray, List.getElem_cons_zero, List.getElem_cons_succ, List.setIfInBounds_toArray, List.set_cons_zero, List.set_cons_succ]
      have HL3 := HL1.out.keep (w' := w2.alloc (.cells #[.int .i64 r.term, .int .i64 r.cmd.kind, .string r.cmd.key, .string r.cmd.val, .string r.cmd.old, .int .i64 r.cmd.rev, .int .i64 r.cmd.ses, .int .i64 r.cmd.seq] 135)) (fun k hk => hb3.block k (HL1.out.lt hk))
      refine wpO_new _ _ 88 rfl 135 8 88 _ Try.underlying88 infoEtyL rfl (by decide) _ _ rfl HL3 #[.int .i64 r.term, .int .i64 r.cmd.kind, .string r.cmd.key, .string r.cmd.val, .string r.cmd.old, .int .i64 r.cmd.rev, .int .i64 r.cmd.ses, .int .i64 r.cmd.seq] w2.heap.size rfl (heap_alloc_new w2 _) rfl hone HBD.out.1 HBD.out.2 ?_
      intro a3 n3 cap3 w3 ho3 hg3
      have hs3 : w2.heap.size + 1 ≤ w3.heap.size := by have := hg3.g.size; simpa using this
      have hB3 : w3.heap[b]? = W1.heap[b]? := (hg3.keep (by simp; omega) (HNB.out b (.inl rfl))).trans (hb3.block b hb1)
      have hZ3 : w3.heap[z]? = W1.heap[z]? := (hg3.keep (by simp; omega) (HNB.out z (.inr rfl))).trans (hb3.block z hzl)
      clear HS0
      have f6 := (World.cell?_of_block (a := ⟨b, o + 6, none⟩) hB3).trans q6
      have ff : ∀ q, w3.frozen? ⟨b, q, none⟩ = false := fun q => by have := qf q; simp only [World.frozen?, hB3] at this ⊢; exact this
      have HS0 := And.intro f6 (And.intro ((World.cell?_of_block (a := ⟨z, 3, none⟩) hZ3).trans z3) (And.intro ((World.cell?_of_block (a := ⟨z, 6, none⟩) hZ3).trans z6) (And.intro ((World.cell?_of_block (a := ⟨z, 7, none⟩) hZ3).trans z7) (And.intro ((World.cell?_of_block (a := ⟨z, 8, none⟩) hZ3).trans z8) (And.intro ((World.cell?_of_block (a := ⟨z, 9, none⟩) hZ3).trans z9) (And.intro ((World.cell?_of_block (a := ⟨z, 10, none⟩) hZ3).trans z10) (And.intro ((World.cell?_of_block (a := ⟨z, 11, none⟩) hZ3).trans z11) ((World.cell?_of_block (a := ⟨z, 12, none⟩) hZ3).trans z12))))))))
      refine ⟨fun _ => HS0, ?_⟩
      simp only [Act.put, List.getElem_toArray, List.getElem_cons_zero, List.getElem_cons_succ, List.setIfInBounds_toArray, List.set_cons_zero, List.set_cons_succ]
      refine wpUntil.only (i := 15) rfl (by kernel_rfl) (by rfl) ?_
      simp only [Act.put, List.getElem_toArray, List.getElem_cons_zero, List.getElem_cons_succ, List.setIfInBounds_toArray, List.set_cons_zero, List.set_cons_succ]
      go_simp
      refine wpUntil.only (i := 16) rfl (by kernel_rfl) (by rfl) ?_
      simp only [Act.put, List.getElem_toArray, List.getElem_cons_zero, List.getElem_cons_succ, List.setIfInBounds_toArray, List.set_cons_zero, List.set_cons_succ]
      go_simp
      refine wpUntil.only (i := 17) rfl (by kernel_rfl) (by rfl) ?_
      simp only [Act.put, List.getElem_toArray, List.getElem_cons_zero, List.getElem_cons_succ, List.setIfInBounds_toArray, List.set_cons_zero, List.set_cons_succ]
      go_simp
      refine wpUntil.done (by kernel_rfl) ?_ _
      go_wp2_with fail
      go_end0
      exact ⟨rfl, HFIN.out _ _ _ _ _ hb2 ho3 hg3⟩
    · refine wp_region_until (fun w' => w'.cell? ⟨b, o + 6, none⟩ = some (.slice (some ⟨ga, 0, none⟩) S.log.length cap) ∧ w'.cell? ⟨z, 3, none⟩ = some (.int .i64 r.term) ∧ w'.cell? ⟨z, 6, none⟩ = some (.int .i64 r.cmd.kind) ∧ w'.cell? ⟨z, 7, none⟩ = some (.string r.cmd.key) ∧ w'.cell? ⟨z, 8, none⟩ = some (.string r.cmd.val) ∧ w'.cell? ⟨z, 9, none⟩ = some (.string r.cmd.old) ∧ w'.cell? ⟨z, 10, none⟩ = some (.int .i64 r.cmd.rev) ∧ w'.cell? ⟨z, 11, none⟩ = some (.int .i64 r.cmd.ses) ∧ w'.cell? ⟨z, 12, none⟩ = some (.int .i64 r.cmd.seq)) 17 (by kernel_rfl) ?_
      have HS0 := HSS.out W1.drew (World.turned.below (turned_drew (fun _ => False)) (fun _ _ h => h))
      refine wpUntil.take (i := 0) (v := (.pointer (some ⟨b, o, none⟩))) rfl (by decide) (by kernel_rfl) (by kernel_rfl) (by kernel_rfl) (by kernel_rfl) (fun _ _ _ h => h) (Or.inl ⟨by rfl, fun w hSw => ?hy0⟩) HS0 ?_
      case hy0 => (try dsimp only at hSw); go_simp
      simp only [Act.put, List.getElem_toArray, List.getElem_cons_zero, List.getElem_cons_succ, List.setIfInBounds_toArray, List.set_cons_zero, List.set_cons_succ]
      refine wpUntil.take (i := 1) (v := (.pointer (some ⟨b, o, none⟩))) rfl (by decide) (by kernel_rfl) (by kernel_rfl) (by kernel_rfl) (by kernel_rfl) (fun _ _ _ h => h) (Or.inl ⟨by rfl, fun w hSw => ?hy1⟩) HS0 ?_
      case hy1 => (try dsimp only at hSw); go_simp
      simp only [Act.put, List.getElem_toArray, List.getElem_cons_zero, List.getElem_cons_succ, List.setIfInBounds_toArray, List.set_cons_zero, List.set_cons_succ]
      refine wpUntil.take (i := 2) (v := (.pointer (some ⟨b, o, none⟩))) rfl (by decide) (by kernel_rfl) (by kernel_rfl) (by kernel_rfl) (by kernel_rfl) (fun _ _ _ h => h) (Or.inl ⟨by rfl, fun w hSw => ?hy2⟩) HS0 ?_
      case hy2 => (try dsimp only at hSw); go_simp
      simp only [Act.put, List.getElem_toArray, List.getElem_cons_zero, List.getElem_cons_succ, List.setIfInBounds_toArray, List.set_cons_zero, List.set_cons_succ]
      refine wpUntil.take (i := 3) (v := (.pointer (some ⟨b, o + 6, none⟩))) rfl (by decide) (by kernel_rfl) (by kernel_rfl) (by kernel_rfl) (by kernel_rfl) (fun _ _ _ h => h) (Or.inl ⟨by rfl, fun w hSw => ?hy3⟩) HS0 ?_
      case hy3 => (try dsimp only at hSw); go_simp
      simp only [Act.put, List.getElem_toArray, List.getElem_cons_zero, List.getElem_cons_succ, List.setIfInBounds_toArray, List.set_cons_zero, List.set_cons_succ]
      refine wpUntil.take (i := 4) (v := (.slice (some ⟨ga, 0, none⟩) S.log.length cap)) rfl (by decide) (by kernel_rfl) (by kernel_rfl) (by kernel_rfl) (by kernel_rfl) (fun _ _ _ h => h) (Or.inl ⟨by rfl, fun w hSw => ?hy4⟩) HS0 ?_
      case hy4 => (try dsimp only at hSw); go_simp
      simp only [Act.put, List.getElem_toArray, List.getElem_cons_zero, List.getElem_cons_succ, List.setIfInBounds_toArray, List.set_cons_zero, List.set_cons_succ]
      refine wpUntil.take (i := 5) (v := (.int .i64 m)) rfl (by decide) (by kernel_rfl) (by kernel_rfl) (by kernel_rfl) (by kernel_rfl) (fun _ _ _ h => h) (Or.inl ⟨by rfl, fun w hSw => ?hy5⟩) HS0 ?_
      case hy5 => (try dsimp only at hSw); go_simp
      simp only [Act.put, List.getElem_toArray, List.getElem_cons_zero, List.getElem_cons_succ, List.setIfInBounds_toArray, List.set_cons_zero, List.set_cons_succ]
      refine wpUntil.take (i := 6) (v := (.slice (some ⟨ga, 0, none⟩) m cap)) rfl (by decide) (by kernel_rfl) (by kernel_rfl) (by kernel_rfl) (by kernel_rfl) (fun _ _ _ h => h) (Or.inl ⟨by rfl, fun w hSw => ?hy6⟩) HS0 ?_
      case hy6 => (try dsimp only at hSw); go_simp
      simp only [Act.put, List.getElem_toArray, List.getElem_cons_zero, List.getElem_cons_succ, List.setIfInBounds_toArray, List.set_cons_zero, List.set_cons_succ]
      refine wpUntil.take (i := 7) (v := (.pointer (some ⟨z, 3, none⟩))) rfl (by decide) (by kernel_rfl) (by kernel_rfl) (by kernel_rfl) (by kernel_rfl) (fun _ _ _ h => h) (Or.inl ⟨by rfl, fun w hSw => ?hy7⟩) HS0 ?_
      case hy7 => (try dsimp only at hSw); go_simp
      simp only [Act.put, List.getElem_toArray, List.getElem_cons_zero, List.getElem_cons_succ, List.setIfInBounds_toArray, List.set_cons_zero, List.set_cons_succ]
      refine wpUntil.take (i := 8) (v := (.int .i64 r.term)) rfl (by decide) (by kernel_rfl) (by kernel_rfl) (by kernel_rfl) (by kernel_rfl) (fun _ _ _ h => h) (Or.inl ⟨by rfl, fun w hSw => ?hy8⟩) HS0 ?_
      case hy8 => (try dsimp only at hSw); go_simp
      simp only [Act.put, List.getElem_toArray, List.getElem_cons_zero, List.getElem_cons_succ, List.setIfInBounds_toArray, List.set_cons_zero, List.set_cons_succ]
      refine wpUntil.take (i := 9) (v := (.pointer (some ⟨z, 6, none⟩))) rfl (by decide) (by kernel_rfl) (by kernel_rfl) (by kernel_rfl) (by kernel_rfl) (fun _ _ _ h => h) (Or.inl ⟨by rfl, fun w hSw => ?hy9⟩) HS0 ?_
      case hy9 => (try dsimp only at hSw); go_simp
      simp only [Act.put, List.getElem_toArray, List.getElem_cons_zero, List.getElem_cons_succ, List.setIfInBounds_toArray, List.set_cons_zero, List.set_cons_succ]
      refine wpUntil.take (i := 10) (v := (.agg #[.int .i64 r.cmd.kind, .string r.cmd.key, .string r.cmd.val, .string r.cmd.old, .int .i64 r.cmd.rev, .int .i64 r.cmd.ses, .int .i64 r.cmd.seq])) rfl (by decide) (by kernel_rfl) (by kernel_rfl) (by kernel_rfl) (by kernel_rfl) (fun _ _ _ h => h) (Or.inl ⟨by rfl, fun w hSw => ?hy10⟩) HS0 ?_
      case hy10 => (try dsimp only at hSw); go_simp
      simp only [Act.put, List.getElem_toArray, List.getElem_cons_zero, List.getElem_cons_succ, List.setIfInBounds_toArray, List.set_cons_zero, List.set_cons_succ]
      refine wpUntil.only (i := 11) rfl (by kernel_rfl) (by rfl) ?_
      simp only [Act.put, List.getElem_toArray, List.getElem_cons_zero, List.getElem_cons_succ, List.setIfInBounds_toArray, List.set_cons_zero, List.set_cons_succ]
      go_simp
      refine (ownCommand r.cmd _ HC.out.1 HC.out.2.1 HC.out.2.2).mono ?_
      rintro e w2 ⟨rfl, hb2'⟩
      have hb2 : Below W1.heap.size W1 w2 := ⟨hb2'.os, hb2'.tape, hb2'.output, hb2'.size, hb2'.block⟩
      clear hb2' HS0
      have HS0 := HSS.out w2 hb2
      refine ⟨HS0, ?_⟩
      refine wpUntil.take (i := 12) (v := (.agg #[.int .i64 r.term, .int .i64 r.cmd.kind, .string r.cmd.key, .string r.cmd.val, .string r.cmd.old, .int .i64 r.cmd.rev, .int .i64 r.cmd.ses, .int .i64 r.cmd.seq])) rfl (by decide) (by kernel_rfl) (by kernel_rfl) (by kernel_rfl) (by kernel_rfl) (fun _ _ _ h => h) (Or.inl ⟨by rfl, fun w hSw => ?hy12⟩) HS0 ?_
      case hy12 => (try dsimp only at hSw); go_simp
      simp only [Act.put, List.getElem_toArray, List.getElem_cons_zero, List.getElem_cons_succ, List.setIfInBounds_toArray, List.set_cons_zero, List.set_cons_succ]
      refine wpUntil.only (i := 13) rfl (by kernel_rfl) (by rfl) ?_
      simp only [Act.put, List.getElem_toArray, List.getElem_cons_zero, List.getElem_cons_succ, List.setIfInBounds_toArray, List.set_cons_zero, List.set_cons_succ]
      go_simp
      have hs2 : W1.heap.size ≤ w2.heap.size := hb2.size
      have hb3 : Below W1.heap.size W1 (w2.alloc (.cells #[.int .i64 r.term, .int .i64 r.cmd.kind, .string r.cmd.key, .string r.cmd.val, .string r.cmd.old, .int .i64 r.cmd.rev, .int .i64 r.cmd.ses, .int .i64 r.cmd.seq] 135)) := hb2.alloc hs2 _
      clear HS0
      have HS0 := HSS.out _ hb3
      refine ⟨HS0, ?_⟩
      refine wpUntil.only (i := 14) rfl (by kernel_rfl) (by rfl) ?_
      simp only [Act.put, List.getElem_toArray, List.getElem_cons_zero, List.getElem_cons_succ, List.setIfInBounds_toArray, List.set_cons_zero, List.set_cons_succ]
      have HL3 := HL1.out.keep (w' := w2.alloc (.cells #[.int .i64 r.term, .int .i64 r.cmd.kind, .string r.cmd.key, .string r.cmd.val, .string r.cmd.old, .int .i64 r.cmd.rev, .int .i64 r.cmd.ses, .int .i64 r.cmd.seq] 135)) (fun k hk => hb3.block k (HL1.out.lt hk))
      refine wpO_new _ _ 88 rfl 135 8 88 _ Try.underlying88 infoEtyL rfl (by decide) _ _ rfl HL3 #[.int .i64 r.term, .int .i64 r.cmd.kind, .string r.cmd.key, .string r.cmd.val, .string r.cmd.old, .int .i64 r.cmd.rev, .int .i64 r.cmd.ses, .int .i64 r.cmd.seq] w2.heap.size rfl (heap_alloc_new w2 _) rfl hone HBD.out.1 HBD.out.2 ?_
      intro a3 n3 cap3 w3 ho3 hg3
      have hs3 : w2.heap.size + 1 ≤ w3.heap.size := by have := hg3.g.size; simpa using this
      have hB3 : w3.heap[b]? = W1.heap[b]? := (hg3.keep (by simp; omega) (HNB.out b (.inl rfl))).trans (hb3.block b hb1)
      have hZ3 : w3.heap[z]? = W1.heap[z]? := (hg3.keep (by simp; omega) (HNB.out z (.inr rfl))).trans (hb3.block z hzl)
      clear HS0
      have f6 := (World.cell?_of_block (a := ⟨b, o + 6, none⟩) hB3).trans q6
      have ff : ∀ q, w3.frozen? ⟨b, q, none⟩ = false := fun q => by have := qf q; simp only [World.frozen?, hB3] at this ⊢; exact this
      have HS0 := And.intro f6 (And.intro ((World.cell?_of_block (a := ⟨z, 3, none⟩) hZ3).trans z3) (And.intro ((World.cell?_of_block (a := ⟨z, 6, none⟩) hZ3).trans z6) (And.intro ((World.cell?_of_block (a := ⟨z, 7, none⟩) hZ3).trans z7) (And.intro ((World.cell?_of_block (a := ⟨z, 8, none⟩) hZ3).trans z8) (And.intro ((World.cell?_of_block (a := ⟨z, 9, none⟩) hZ3).trans z9) (And.intro ((World.cell?_of_block (a := ⟨z, 10, none⟩) hZ3).trans z10) (And.intro ((World.cell?_of_block (a := ⟨z, 11, none⟩) hZ3).trans z11) ((World.cell?_of_block (a := ⟨z, 12, none⟩) hZ3).trans z12))))))))
      refine ⟨fun _ => HS0, ?_⟩
      simp only [Act.put, List.getElem_toArray, List.getElem_cons_zero, List.getElem_cons_succ, List.setIfInBounds_toArray, List.set_cons_zero, List.set_cons_succ]
      refine wpUntil.only (i := 15) rfl (by kernel_rfl) (by rfl) ?_
      simp only [Act.put, List.getElem_toArray, List.getElem_cons_zero, List.getElem_cons_succ, List.setIfInBounds_toArray, List.set_cons_zero, List.set_cons_succ]
      go_simp
      refine wpUntil.only (i := 16) rfl (by kernel_rfl) (by rfl) ?_
      simp only [Act.put, List.getElem_toArray, List.getElem_cons_zero, List.getElem_cons_succ, List.setIfInBounds_toArray, List.set_cons_zero, List.set_cons_succ]
      go_simp
      refine wpUntil.only (i := 17) rfl (by kernel_rfl) (by rfl) ?_
      simp only [Act.put, List.getElem_toArray, List.getElem_cons_zero, List.getElem_cons_succ, List.setIfInBounds_toArray, List.set_cons_zero, List.set_cons_succ]
      go_simp
      refine wpUntil.done (by kernel_rfl) ?_ _
      go_wp2_with fail
      go_end0
      exact ⟨rfl, HFIN.out _ _ _ _ _ hb2 ho3 hg3⟩
  · have HS : Hid (S.one r = S) := by
      show _ = _
      have := HD.out
      unfold WSt.one
      rw [if_neg (by rw [HK3.out]; decide), if_neg (fun h => hin ⟨by omega, by omega⟩)]
    by_cases h0 : 0 ≤ d
    · have h1 : decide (0 ≤ d) = true := decide_eq_true h0
      have h2 : decide (d ≤ (S.log.length : Int)) = false := decide_eq_false (fun h => hin ⟨h0, h⟩)
      have h1' : d ≥ 0 := h0
      have h2' : ¬ d ≤ (S.log.length : Int) := fun h => hin ⟨h0, h⟩
      clear hin hn h0
      go_enter Try.func143, Try.ntmps143
      go_wp2_with fail
      go_region_held3 (fun w' => w'.cell? ⟨b, o + 3, none⟩ = some (.int .i64 S.base) ∧ w'.cell? ⟨w.heap.size, 2, none⟩ = some (.int .i64 r.index)) (go_keep) (fail)
      go_wp2_with fail
      go_end0
      rw [HS.out]
      exact ⟨rfl, _, H.out.grown (by repeat (first | exact Below.refl _ _ | assumption | with_reducible refine below_drewN ?_ _ | refine Gr.ext ?_ _ | refine Gr.alloc ?_ _ | refine Gr.drew ?_ | (refine Gr.set ?_ (by first | (simp; done) | (simp; omega)) _))), fun k hk => .inl hk, World.turned.of_below (by repeat (first | exact Below.refl _ _ | assumption | with_reducible refine below_drewN ?_ _ | refine Gr.ext ?_ _ | refine Gr.alloc ?_ _ | refine Gr.drew ?_ | (refine Gr.set ?_ (by first | (simp; done) | (simp; omega)) _))) _⟩
    · have h1' : ¬ d ≥ 0 := h0
      clear hin hn h0
      go_enter Try.func143, Try.ntmps143
      go_wp2_with fail
      go_region_held3 (fun w' => w'.cell? ⟨b, o + 3, none⟩ = some (.int .i64 S.base) ∧ w'.cell? ⟨w.heap.size, 2, none⟩ = some (.int .i64 r.index)) (go_keep) (fail)
      go_wp2_with fail
      go_end0
      rw [HS.out]
      exact ⟨rfl, _, H.out.grown (by repeat (first | exact Below.refl _ _ | assumption | with_reducible refine below_drewN ?_ _ | refine Gr.ext ?_ _ | refine Gr.alloc ?_ _ | refine Gr.drew ?_ | (refine Gr.set ?_ (by first | (simp; done) | (simp; omega)) _))), fun k hk => .inl hk, World.turned.of_below (by repeat (first | exact Below.refl _ _ | assumption | with_reducible refine below_drewN ?_ _ | refine Gr.ext ?_ _ | refine Gr.alloc ?_ _ | refine Gr.drew ?_ | (refine Gr.set ?_ (by first | (simp; done) | (simp; omega)) _))) _⟩
end Go.Proofs.Ytcbbnmodjnnbeaa
