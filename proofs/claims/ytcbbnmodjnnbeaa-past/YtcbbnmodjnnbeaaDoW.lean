/- The walk of the store's Do. -/
import Derived.Test.YtcbbnmodjnnbeaaResult
import Derived.Test.YtcbbnmodjnnbeaaSameCmd
set_option linter.unusedSimpArgs false
set_option linter.unusedVariables false
namespace Go.Proofs.Ytcbbnmodjnnbeaa
open Go.RowKit

def doAll : St → List Cmd → List Res × St
  | s, [] => ([], s)
  | s, c :: cs => ((s.result c).1 :: (doAll (s.result c).2 cs).1, (doAll (s.result c).2 cs).2)
set_option maxRecDepth 100000 in
set_option maxHeartbeats 1000000 in
theorem storeDoNo (w : World) (p : Nat) (ac : Option Addr) (capc : Nat) (cs : List Cmd) (hr : w.reads 7 (.slice ac cs.length capc) (cs.map Cmd.cells)) (hn : cs.length ≤ 8796093022208) (hno : ∃ c ∈ cs, c.may = false) :
    Calls Try.prog 31 #[.pointer (some ⟨p, 0, none⟩), .slice ac cs.length capc] w fun e w' => e = .returned (.tuple #[nilS, .int .i64 8]) ∧ Below w.heap.size w w' := by
  go_enter Try.func31, Try.ntmps31
  go_wp2_with fail
  go_loopw [13] (fun i wr => ∃ k : Nat, k ≤ cs.length ∧ i = .int .i64 k ∧ Below w.heap.size w wr ∧ ∀ j (h : j < cs.length), j < k → cs[j].may = true) (fun i _ => cs.length - (intOf i).toNat)
  case atStart => exact ⟨0, Nat.zero_le _, rfl, Below.refl _ _, fun j _ h => by omega⟩
  case round =>
    obtain ⟨k, hk, rfl, hb, hall⟩ := hrel
    by_cases hlt : k < cs.length
    · have hr' : wr.reads 7 (.slice ac cs.length capc) (cs.map Cmd.cells) := hr.keep fun x hx => hb.block x (reads_lt' hr hx)
      obtain ⟨g, o, rfl, hg, hv⟩ := Cmd.at_reads hr' hlt
      obtain ⟨d0, d1, d2, d3, d4, d5, d6⟩ := Cmd.off hv
      have HC : Hid (∀ b, cs[k].may = b → ∀ j (h : j < cs.length), j < k + 1 → b = true → cs[j].may = true) := fun b hb j h hj e => by
        rcases Nat.lt_or_ge j k with h1 | h1
        · exact hall j h h1
        · have : j = k := by omega
          subst this; rw [hb, e]
      have HM : Hid (∃ b, cs[k].may = b) := ⟨_, rfl⟩
      generalize cs[k] = c at *
      have hmay := checkCommand c
      clear hv hr' hr hno hall
      obtain ⟨b, hbm⟩ := HM.out
      rw [hbm] at hmay
      have HC2 := HC.out b hbm
      have HC3 : Hid (∀ j (h : j < cs.length), j < k + 1 → b = true → cs[j].may = true) := HC2
      clear HC HC2 HM hbm
      have hk1 : (k : Int) < cs.length := by omega
      cases b
      · go_wp2_with (go_at_call 71; refine (hmay _).mono ?_; rintro e w1 ⟨rfl, hb1⟩)
        exact bodyPost_ret (v := .tuple #[nilS, .int .i64 8]) (by simp [results, Try.results31, go_sem]) rfl ⟨rfl, (Gr.alloc hb _).trans (hb1.mono (Gr.alloc hb _).size)⟩
      · go_wp2_with (go_at_call 71; refine (hmay _).mono ?_; rintro e w1 ⟨rfl, hb1⟩)
        exact ⟨⟨k + 1, by omega, val_int (by omega), (Gr.alloc hb _).trans (hb1.mono (Gr.alloc hb _).size), fun j h hj => HC3.out j h hj trivial⟩, by simp [intOf]; omega⟩
    · exfalso
      obtain ⟨c, hc, hcm⟩ := hno
      obtain ⟨j, hj, rfl⟩ := List.mem_iff_getElem.1 hc
      rw [hall j hj (by omega)] at hcm
      exact Bool.noConfusion hcm

theorem made_flatten (z : Array Value) (n : Nat) (h : 0 < z.size) : (madeCells z (n * z.size)).toList = (List.replicate n z.toList).flatten := by
  have hl : (List.replicate n z.toList).flatten.length = n * z.size := by simp [List.length_flatten]
  apply List.ext_getElem?
  intro j
  by_cases hj : j < n * z.size
  · have hlt := Nat.mod_lt j h
    have hq : j / z.size < n := (Nat.div_lt_iff_lt_mul h).2 hj
    have e1 := flatten_at z.size (List.replicate n z.toList) (j / z.size) z.toList (fun c hc => by rw [(List.mem_replicate.1 hc).2]; simp) (by rw [List.getElem?_replicate, if_pos hq]) (j % z.size) hlt
    have e2 : j / z.size * z.size + j % z.size = j := by rw [Nat.mul_comm]; exact Nat.div_add_mod j z.size
    rw [e2] at e1
    rw [e1]
    simp only [madeCells, Array.toList_map, List.getElem?_map, Array.toList_range]
    rw [List.getElem?_range hj]
    rw [Option.map_some, Array.getElem?_toList, Array.getElem?_eq_getElem hlt, getElem!_pos z (j % z.size) hlt]
  · rw [List.getElem?_eq_none (by rw [Array.length_toList, size_madeCells]; omega), List.getElem?_eq_none (by rw [hl]; omega)]
theorem made_own {w : World} {e : TypeId} {z : Array Value} {n : Nat} {v : Value} (h : 0 < z.size) (ho : w.ownsRow 0 e z.size v n (madeCells z (n * z.size)).toList) : w.ownL e z.size v (List.replicate n z.toList) := by
  rw [made_flatten z n h] at ho
  exact ⟨by rw [List.length_replicate]; exact ho, fun c hc => by rw [(List.mem_replicate.1 hc).2]; simp⟩
theorem doAll_snoc : ∀ (l : List Cmd) (s : St) (c : Cmd), doAll s (l ++ [c]) = ((doAll s l).1 ++ [((doAll s l).2.result c).1], ((doAll s l).2.result c).2)
  | [], s, c => rfl
  | x :: l, s, c => by
    have ih := doAll_snoc l (s.result x).2 c
    show ((s.result x).1 :: (doAll (s.result x).2 (l ++ [c])).1, (doAll (s.result x).2 (l ++ [c])).2) = _
    rw [ih]; rfl
theorem doAll_len : ∀ (l : List Cmd) (s : St), (doAll s l).1.length = l.length
  | [], s => rfl
  | x :: l, s => by show (_ :: _).length = _; rw [List.length_cons, doAll_len l]; rfl
theorem infoRes : (Try.prog.info? 72).map (fun i => (i.zero, i.size, i.bytes)) = some (some (.agg #[.bool false, .int .i64 0, .bool false]), 3, 24) := by kernel_rfl
abbrev zRes : List Value := [.bool false, .int .i64 0, .bool false]
/-- On the way of Do's second loop. -/
structure DInv (w wr : World) (p b : Nat) (D D' : DataW Value) (s : St) (cs : List Cmd) (g k : Nat) (s' : St) (rs : List Res) : Prop where
  store : StoreAt wr p b D' s'
  foot : ∀ x, footM b D' x → footM b D x ∨ w.heap.size ≤ x
  turned : w.turned wr (footS p b D)
  own : wr.ownL 72 3 (.slice (some ⟨g, 0, none⟩) cs.length cs.length) (rs.map Res.cells ++ List.replicate (cs.length - k) zRes)
  g0 : w.heap.size ≤ g
  goff : ¬ footS p b D' g
  len : rs.length = k
theorem DInv.call {w wr W w1 : World} {p b : Nat} {D D' : DataW Value} {s s' s'' : St} {cs : List Cmd} {g k : Nat} {rs : List Res} (h : DInv w wr p b D D' s cs g k s' rs) (hb : Below wr.heap.size wr W) (hc : Chg W w1 p b D' s'') : ∃ D'', DInv w w1 p b D D'' s cs g k s'' rs := by
  obtain ⟨D'', h1, h2, h3⟩ := hc
  have hgl : g < wr.heap.size := h.own.lt rfl
  have hs := hb.size
  have hw := h.turned.size
  refine ⟨D'', h1, fun x hx => ?_, ?_, ?_, h.g0, ?_, h.len⟩
  · rcases h2 x hx with h4 | h4
    · exact h.foot x h4
    · exact .inr (by omega)
  · refine (h.turned.trans (.of_below hb fun _ => False) fun _ _ h => h.elim).trans h3 fun x hx hf => ?_
    rcases hf with rfl | hf
    · exact .inl rfl
    · rcases h.foot x hf with h4 | h4
      · exact .inr h4
      · omega
  · refine h.own.keep fun x hx => ?_
    have : x = g := by cases hx; rfl
    subst this
    rw [h3.block x (by omega) h.goff, hb.block x hgl]
  · exact (Chg.keep h2 h3 (x := g) (by omega) h.goff).2
theorem DInv.put {w w1 w3 : World} {p b : Nat} {D D' : DataW Value} {s s' : St} {cs : List Cmd} {g k : Nat} {rs : List Res} {r : Res} (h : DInv w w1 p b D D' s cs g k s' rs) (hk : k < cs.length)
    (ho : w3.ownL 72 3 (.slice (some ⟨g, 0, none⟩) cs.length cs.length) ((rs.map Res.cells ++ List.replicate (cs.length - k) zRes).set k (#[.bool r.ok, .int .i64 r.rev, .bool r.stale] : Array Value).toList)) (hg : Grew w1 w3 (.slice (some ⟨g, 0, none⟩) cs.length cs.length) (.slice (some ⟨g, 0, none⟩) cs.length cs.length)) :
    DInv w w3 p b D D' s cs g (k + 1) s' (rs ++ [r]) := by
  have hs : ∀ x, footS p b D' x → w3.heap[x]? = w1.heap[x]? := fun x hx => hg.g.block x (h.store.foot_lt hx) fun e => by
    cases e
    exact h.goff hx
  refine ⟨⟨(hs p (.inl rfl)).trans h.store.blk, h.store.map.keep fun x hx => hs x (.inr hx), h.store.good, h.store.sz⟩, h.foot, ?_, ?_, h.g0, h.goff, by simp [h.len]⟩
  · refine h.turned.grew hg fun x hx e => ?_
    have : x = g := by cases e; rfl
    have := h.g0; omega
  · have hl : (rs.map Res.cells).length = k := by rw [List.length_map]; exact h.len
    have e : (rs.map Res.cells ++ List.replicate (cs.length - k) zRes).set k (#[.bool r.ok, .int .i64 r.rev, .bool r.stale] : Array Value).toList = (rs ++ [r]).map Res.cells ++ List.replicate (cs.length - (k + 1)) zRes := by
      rw [List.set_append_right _ _ (by omega), hl, Nat.sub_self, show cs.length - k = (cs.length - (k + 1)) + 1 by omega, List.replicate_succ, List.set_cons_zero, List.map_append, List.append_assoc]
      rfl
    rw [e] at ho
    exact ho
set_option maxRecDepth 100000 in
set_option maxHeartbeats 1000000 in
theorem storeDoYes (w : World) (p b : Nat) (D : DataW Value) (s : St) (h : StoreAt w p b D s) (ac : Option Addr) (capc : Nat) (cs : List Cmd) (hr : w.reads 7 (.slice ac cs.length capc) (cs.map Cmd.cells)) (hoff : ∀ k, (Value.slice ac cs.length capc).ownBlock = some k → ¬ footS p b D k) (hn : cs.length ≤ 8796093022208) (hall : ∀ c ∈ cs, c.may = true) :
    Calls Try.prog 31 #[.pointer (some ⟨p, 0, none⟩), .slice ac cs.length capc] w fun e w' => ∃ g D', e = .returned (.tuple #[.slice (some ⟨g, 0, none⟩) cs.length cs.length, .int .i64 0]) ∧ w'.ownL 72 3 (.slice (some ⟨g, 0, none⟩) cs.length cs.length) ((doAll s cs).1.map Res.cells) ∧ w.heap.size ≤ g ∧ ¬ footS p b D' g ∧
      StoreAt w' p b D' (doAll s cs).2 ∧ (∀ x, footM b D' x → footM b D x ∨ w.heap.size ≤ x) ∧ w.turned w' (footS p b D) := by
  have H : Hid (StoreAt w p b D s) := h
  clear h
  go_enter Try.func31, Try.ntmps31
  go_wp2_with fail
  go_loopw [13] (fun i wr => ∃ k : Nat, k ≤ cs.length ∧ i = .int .i64 k ∧ Below w.heap.size w wr) (fun i _ => cs.length - (intOf i).toNat)
  case atStart => exact ⟨0, Nat.zero_le _, rfl, Below.refl _ _⟩
  case round =>
    obtain ⟨k, hk, rfl, hb⟩ := hrel
    by_cases hlt : k < cs.length
    · have hr' : wr.reads 7 (.slice ac cs.length capc) (cs.map Cmd.cells) := hr.keep fun x hx => hb.block x (reads_lt' hr hx)
      obtain ⟨g, o, rfl, hg, hv⟩ := Cmd.at_reads hr' hlt
      obtain ⟨d0, d1, d2, d3, d4, d5, d6⟩ := Cmd.off hv
      have hmay := checkCommand cs[k]
      rw [hall cs[k] (List.getElem_mem _)] at hmay
      generalize cs[k] = c at *
      clear hv hr' hr hall hoff
      have hk1 : (k : Int) < cs.length := by omega
      go_wp2_with (go_at_call 71; refine (hmay _).mono ?_; rintro e w1 ⟨rfl, hb1⟩)
      exact ⟨⟨k + 1, by omega, val_int (by omega), (Gr.alloc hb _).trans (hb1.mono (Gr.alloc hb _).size)⟩, by simp [intOf]; omega⟩
    · have hkk : k = cs.length := by omega
      subst hkk
      go_wp2_with (at_make; refine Held.out ?_)
      unfold Held
      obtain ⟨i0, hi0, hz0, hsz0, hby0⟩ := info_parts infoRes
      refine wpList_make_full _ rfl _ _ 68 rfl 0 72 i0 _ 3 Try.underlying68 hi0 hz0 hsz0 .i64 .i64 _ _ cs.length rfl rfl rfl rfl (by rw [hby0]; omega) (by unfold maxLen; omega) (Nat.zero_le _) ?_
      intro w2 ho2 hg2
      have ho2' : w2.ownL 72 3 (.slice (some ⟨wr.heap.size, 0, none⟩) cs.length cs.length) (List.replicate cs.length [.bool false, .int .i64 0, .bool false]) := made_own (z := #[.bool false, .int .i64 0, .bool false]) (by decide) ho2
      have hB2 : Below w.heap.size w w2 := hb.trans (Below.grown (Below.refl _ _) hg2 (by have := hb.size; omega) (by simp))
      clear ho2
      go_frame
      go_wp2_with fail
      obtain ⟨g, hg0⟩ : ∃ g, wr.heap.size = g := ⟨_, rfl⟩
      rw [hg0] at ho2' ⊢
      have HI0 : Hid (DInv w w2 p b D D s cs g 0 s []) := by
        have hlt2 : ∀ x, footS p b D x → x < w.heap.size := fun x hx => H.out.foot_lt hx
        refine ⟨H.out.grown hB2, fun x hx => .inl hx, .of_below hB2 _, by simpa using ho2', by have := hb.size; omega, fun hx => ?_, rfl⟩
        have := hlt2 g hx; have := hb.size; omega
      clear ho2' hB2 hg2 hg0 hb
      go_loopw [26] (fun i wr => ∃ k D', k ≤ cs.length ∧ i = .int .i64 ((k : Nat) : Int) ∧ Hid (DInv w wr p b D D' s cs g k (doAll s (cs.take k)).2 (doAll s (cs.take k)).1)) (fun i _ => cs.length - (intOf i).toNat)
      case atStart => exact ⟨0, D, Nat.zero_le _, rfl, HI0⟩
      case round =>
        clear HI0
        obtain ⟨k, D1, hk, rfl, HI⟩ := hrel
        by_cases hlt : k < cs.length
        · have hr' : wr.reads 7 (.slice ac cs.length capc) (cs.map Cmd.cells) := hr.keep fun x hx => HI.out.turned.block x (reads_lt' hr hx) (hoff x hx)
          obtain ⟨ga, oa, rfl, hga, hv⟩ := Cmd.at_reads hr' hlt
          obtain ⟨d0, d1, d2, d3, d4, d5, d6⟩ := Cmd.off hv
          have htake : cs.take (k + 1) = cs.take k ++ [cs[k]] := by rw [List.take_add_one, List.getElem?_eq_getElem hlt]; rfl
          have HT : Hid (doAll s (cs.take (k + 1)) = ((doAll s (cs.take k)).1 ++ [((doAll s (cs.take k)).2.result cs[k]).1], ((doAll s (cs.take k)).2.result cs[k]).2)) := by
            show _ = _
            rw [htake, doAll_snoc]
          have hc : CmdBd cs[k] := cmd_bd _ (hall _ (List.getElem_mem _))
          generalize cs[k] = c at *
          have hcall := fun W (hW : Below wr.heap.size wr W) => storeResult W p b D1 _ (HI.out.store.grown hW) c hc
          generalize (doAll s (cs.take k)).2 = s1 at *
          generalize (doAll s (cs.take k)).1 = rs at *
          obtain ⟨r, hr0⟩ : ∃ r, (s1.result c).1 = r := ⟨_, rfl⟩
          rw [hr0] at HT hcall
          obtain ⟨s2, hs2⟩ : ∃ s2, (s1.result c).2 = s2 := ⟨_, rfl⟩
          rw [hs2] at HT hcall
          have HCALL : Hid (∀ W, Below wr.heap.size wr W → Calls Try.prog 72 #[.pointer (some ⟨p, 0, none⟩), (.agg #[.int .i64 c.kind, .string c.key, .string c.val, .string c.old, .int .i64 c.rev, .int .i64 c.ses, .int .i64 c.seq])] W fun e w' => e = .returned (.agg #[.bool r.ok, .int .i64 r.rev, .bool r.stale]) ∧ Chg W w' p b D1 s2) := hcall
          have hk1 : (k : Int) < cs.length := by omega
          clear hv hr' hr hall hoff htake hc hcall hr0 hs2
          go_wp2_with (first | (go_at_call 72; refine (HCALL.out _ (by repeat (first | exact Below.refl _ _ | assumption | with_reducible refine below_drewN ?_ _ | refine Gr.ext ?_ _ | refine Gr.alloc ?_ _ | refine Gr.drew ?_ | (refine Gr.set ?_ (by first | (simp; done) | (simp; omega)) _)))).mono ?_; rintro e w1 ⟨rfl, hg⟩; obtain ⟨D2, HP⟩ := HI.out.call (by repeat (first | exact Below.refl _ _ | assumption | with_reducible refine below_drewN ?_ _ | refine Gr.ext ?_ _ | refine Gr.alloc ?_ _ | refine Gr.drew ?_ | (refine Gr.set ?_ (by first | (simp; done) | (simp; omega)) _))) hg; have HP2 : Hid _ := HP; have ho1 := HP.own; have hlen1 : k < (rs.map Res.cells ++ List.replicate (cs.length - k) zRes).length := (by rw [List.length_append, List.length_map, List.length_replicate, HP.len]; omega); clear hg HP) | (refine wpL_store rfl 72 _ _ rfl 72 3 _ _ ho1 k hlen1 g cs.length cs.length rfl _ rfl rfl #[.bool r.ok, .int .i64 r.rev, .bool r.stale] rfl (by kernel_rfl) rfl (by intro u hu; simp only [List.mem_cons, List.not_mem_nil, or_false] at hu; rcases hu with rfl | rfl | rfl <;> rfl) ?_; intro w3 ho3 hg3))
          exact ⟨⟨k + 1, D2, by omega, val_int (by omega), by rw [HT.out]; exact HP2.out.put hlt ho3 hg3⟩, by simp [intOf]; omega⟩
        · have hkk : k = cs.length := by omega
          subst hkk
          go_wp2_with fail
          have hI := HI.out
          rw [List.take_length] at hI
          refine bodyPost_ret (v := .tuple #[.slice (some ⟨g, 0, none⟩) cs.length cs.length, .int .i64 0]) (by simp [results, Try.results31, go_sem]) rfl ⟨g, D1, rfl, ?_, hI.g0, hI.goff, hI.store, hI.foot, hI.turned⟩
          have := hI.own
          rw [Nat.sub_self, List.replicate_zero, List.append_nil] at this
          exact this
end Go.Proofs.Ytcbbnmodjnnbeaa
