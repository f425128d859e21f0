/- The walk of the store's Do. -/
import Derived.Test.YtcbbnmodjnnbeaaSameCmd
import Derived.Test.YtcbbnmodjnnbeaaPack2
import Derived.Deep.DeepMust
import Derived.Test.YtcbbnmodjnnbeaaPreds
import Derived.Test.YtcbbnmodjnnbeaaRead
import Derived.Carry
set_option linter.unusedSimpArgs false
set_option linter.unusedVariables false
namespace Go.Proofs.Ytcbbnmodjnnbeaa
open Go.RowKit

def doAll : St → List Cmd → List Res × St
  | s, [] => ([], s)
  | s, c :: cs => ((s.result c).1 :: (doAll (s.result c).2 cs).1, (doAll (s.result c).2 cs).2)
set_option maxRecDepth 100000 in
set_option maxHeartbeats 1000000 in
theorem storeDoNo (w : World) (p : Nat) (ac : Option Addr) (capc : Nat) (cs : List Cmd) (hr : w.reads 7 (.slice ac cs.length capc) (cs.map Cmd.cells)) (hn : cs.length ≤ 8796093022208) (hno : ∃ c ∈ cs, c.may = false) :
    Calls Try.prog 31 #[.pointer (some ⟨p, 0, none⟩), .slice ac cs.length capc] w fun e w' => e = .returned (.tuple #[nilS, .int .i64 8]) ∧ Below w.heap.size w w' := by
  go_enter Try.func31, Try.ntmps31
  go_wp2_with fail
  go_loopw [13] (fun i wr => ∃ k : Nat, k ≤ cs.length ∧ i = .int .i64 k ∧ Below w.heap.size w wr ∧ ∀ j (h : j < cs.length), j < k → cs[j].may = true) (fun i _ => cs.length - (intOf i).toNat)
  case atStart => exact ⟨0, Nat.zero_le _, rfl, Below.refl _ _, fun j _ h => by omega⟩
  case round =>
    obtain ⟨k, hk, rfl, hb, hall⟩ := hrel
    by_cases hlt : k < cs.length
    · have hr' : wr.reads 7 (.slice ac cs.length capc) (cs.map Cmd.cells) := hr.keep fun x hx => hb.block x (reads_lt' hr hx)
      obtain ⟨g, o, rfl, hg, hv⟩ := Cmd.at_reads hr' hlt
      obtain ⟨d0, d1, d2, d3, d4, d5, d6⟩ := Cmd.off hv
      have HC : Hid (∀ b, cs[k].may = b → ∀ j (h : j < cs.length), j < k + 1 → b = true → cs[j].may = true) := fun b hb j h hj e => by
        rcases Nat.lt_or_ge j k with h1 | h1
        · exact hall j h h1
        · have : j = k := by omega
          subst this; rw [hb, e]
      have HM : Hid (∃ b, cs[k].may = b) := ⟨_, rfl⟩
      generalize cs[k] = c at *
      have hmay := checkCommand c
      clear hv hr' hr hno hall
      obtain ⟨b, hbm⟩ := HM.out
      rw [hbm] at hmay
      have HC2 := HC.out b hbm
      have HC3 : Hid (∀ j (h : j < cs.length), j < k + 1 → b = true → cs[j].may = true) := HC2
      clear HC HC2 HM hbm
      have hk1 : (k : Int) < cs.length := by omega
      cases b
      · go_wp2_with (go_at_call 71; refine (hmay _).mono ?_; rintro e w1 ⟨rfl, hb1⟩)
        exact bodyPost_ret (v := .tuple #[nilS, .int .i64 8]) (by simp [results, Try.results31, go_sem]) rfl ⟨rfl, (Gr.alloc hb _).trans (hb1.mono (Gr.alloc hb _).size)⟩
      · go_wp2_with (go_at_call 71; refine (hmay _).mono ?_; rintro e w1 ⟨rfl, hb1⟩)
        exact ⟨⟨k + 1, by omega, val_int (by omega), (Gr.alloc hb _).trans (hb1.mono (Gr.alloc hb _).size), fun j h hj => HC3.out j h hj trivial⟩, by simp [intOf]; omega⟩
    · exfalso
      obtain ⟨c, hc, hcm⟩ := hno
      obtain ⟨j, hj, rfl⟩ := List.mem_iff_getElem.1 hc
      rw [hall j hj (by omega)] at hcm
      exact Bool.noConfusion hcm

theorem made_flatten (z : Array Value) (n : Nat) (h : 0 < z.size) : (madeCells z (n * z.size)).toList = (List.replicate n z.toList).flatten := by
  have hl : (List.replicate n z.toList).flatten.length = n * z.size := by simp [List.length_flatten]
  apply List.ext_getElem?
  intro j
  by_cases hj : j < n * z.size
  · have hlt := Nat.mod_lt j h
    have hq : j / z.size < n := (Nat.div_lt_iff_lt_mul h).2 hj
    have e1 := flatten_at z.size (List.replicate n z.toList) (j / z.size) z.toList (fun c hc => by rw [(List.mem_replicate.1 hc).2]; simp) (by rw [List.getElem?_replicate, if_pos hq]) (j % z.size) hlt
    have e2 : j / z.size * z.size + j % z.size = j := by rw [Nat.mul_comm]; exact Nat.div_add_mod j z.size
    rw [e2] at e1
    rw [e1]
    simp only [madeCells, Array.toList_map, List.getElem?_map, Array.toList_range]
    rw [List.getElem?_range hj]
    rw [Option.map_some, Array.getElem?_toList, Array.getElem?_eq_getElem hlt, getElem!_pos z (j % z.size) hlt]
  · rw [List.getElem?_eq_none (by rw [Array.length_toList, size_madeCells]; omega), List.getElem?_eq_none (by rw [hl]; omega)]
theorem made_own {w : World} {e : TypeId} {z : Array Value} {n : Nat} {v : Value} (h : 0 < z.size) (ho : w.ownsRow 0 e z.size v n (madeCells z (n * z.size)).toList) : w.ownL e z.size v (List.replicate n z.toList) := by
  rw [made_flatten z n h] at ho
  exact ⟨by rw [List.length_replicate]; exact ho, fun c hc => by rw [(List.mem_replicate.1 hc).2]; simp⟩
theorem doAll_snoc : ∀ (l : List Cmd) (s : St) (c : Cmd), doAll s (l ++ [c]) = ((doAll s l).1 ++ [((doAll s l).2.result c).1], ((doAll s l).2.result c).2)
  | [], s, c => rfl
  | x :: l, s, c => by
    have ih := doAll_snoc l (s.result x).2 c
    show ((s.result x).1 :: (doAll (s.result x).2 (l ++ [c])).1, (doAll (s.result x).2 (l ++ [c])).2) = _
    rw [ih]; rfl
theorem doAll_len : ∀ (l : List Cmd) (s : St), (doAll s l).1.length = l.length
  | [], s => rfl
  | x :: l, s => by show (_ :: _).length = _; rw [List.length_cons, doAll_len l]; rfl
theorem infoRes : (Try.prog.info? 72).map (fun i => (i.zero, i.size, i.bytes)) = some (some (.agg #[.bool false, .int .i64 0, .bool false]), 3, 24) := by kernel_rfl
abbrev zRes : List Value := [.bool false, .int .i64 0, .bool false]
/-- On the way of Do's second loop. -/
structure DInv (w wr : World) (p b : Nat) (D D' : DataW Value) (s : St) (cs : List Cmd) (g k : Nat) (s' : St) (rs : List Res) : Prop where
  store : StoreAt wr p b D' s'
  foot : ∀ x, footM b D' x → footM b D x ∨ w.heap.size ≤ x
  turned : w.turned wr (footS p b D)
  own : wr.ownL 72 3 (.slice (some ⟨g, 0, none⟩) cs.length cs.length) (rs.map Res.cells ++ List.replicate (cs.length - k) zRes)
  g0 : w.heap.size ≤ g
  goff : ¬ footS p b D' g
  len : rs.length = k
theorem DInv.call {w wr W w1 : World} {p b : Nat} {D D' : DataW Value} {s s' s'' : St} {cs : List Cmd} {g k : Nat} {rs : List Res} (h : DInv w wr p b D D' s cs g k s' rs) (hb : Below wr.heap.size wr W) (hc : Chg W w1 p b D' s'') : ∃ D'', DInv w w1 p b D D'' s cs g k s'' rs := by
  obtain ⟨D'', h1, h2, h3⟩ := hc
  have hgl : g < wr.heap.size := h.own.lt rfl
  have hs := hb.size
  have hw := h.turned.size
  refine ⟨D'', h1, fun x hx => ?_, ?_, ?_, h.g0, ?_, h.len⟩
  · rcases h2 x hx with h4 | h4
    · exact h.foot x h4
    · exact .inr (by omega)
  · refine (h.turned.trans (.of_below hb fun _ => False) fun _ _ h => h.elim).trans h3 fun x hx hf => ?_
    rcases hf with rfl | hf
    · exact .inl rfl
    · rcases h.foot x hf with h4 | h4
      · exact .inr h4
      · omega
  · refine h.own.keep fun x hx => ?_
    have : x = g := by cases hx; rfl
    subst this
    rw [h3.block x (by omega) h.goff, hb.block x hgl]
  · exact (Chg.keep h2 h3 (x := g) (by omega) h.goff).2
theorem DInv.put {w w1 w3 : World} {p b : Nat} {D D' : DataW Value} {s s' : St} {cs : List Cmd} {g k : Nat} {rs : List Res} {r : Res} (h : DInv w w1 p b D D' s cs g k s' rs) (hk : k < cs.length)
    (ho : w3.ownL 72 3 (.slice (some ⟨g, 0, none⟩) cs.length cs.length) ((rs.map Res.cells ++ List.replicate (cs.length - k) zRes).set k (#[.bool r.ok, .int .i64 r.rev, .bool r.stale] : Array Value).toList)) (hg : Grew w1 w3 (.slice (some ⟨g, 0, none⟩) cs.length cs.length) (.slice (some ⟨g, 0, none⟩) cs.length cs.length)) :
    DInv w w3 p b D D' s cs g (k + 1) s' (rs ++ [r]) := by
  have hs : ∀ x, footS p b D' x → w3.heap[x]? = w1.heap[x]? := fun x hx => hg.g.block x (h.store.foot_lt hx) fun e => by
    cases e
    exact h.goff hx
  refine ⟨⟨(hs p (.inl rfl)).trans h.store.blk, h.store.map.keep fun x hx => hs x (.inr hx), h.store.good, h.store.sz⟩, h.foot, ?_, ?_, h.g0, h.goff, by simp [h.len]⟩
  · refine h.turned.grew hg fun x hx e => ?_
    have : x = g := by cases e; rfl
    have := h.g0; omega
  · have hl : (rs.map Res.cells).length = k := by rw [List.length_map]; exact h.len
    have e : (rs.map Res.cells ++ List.replicate (cs.length - k) zRes).set k (#[.bool r.ok, .int .i64 r.rev, .bool r.stale] : Array Value).toList = (rs ++ [r]).map Res.cells ++ List.replicate (cs.length - (k + 1)) zRes := by
      rw [List.set_append_right _ _ (by omega), hl, Nat.sub_self, show cs.length - k = (cs.length - (k + 1)) + 1 by omega, List.replicate_succ, List.set_cons_zero, List.map_append, List.append_assoc]
      rfl
    rw [e] at ho
    exact ho
set_option maxRecDepth 100000 in
set_option maxHeartbeats 1000000 in
theorem storeDoYes (w : World) (p b : Nat) (D : DataW Value) (s : St) (h : StoreAt w p b D s) (ac : Option Addr) (capc : Nat) (cs : List Cmd) (hr : w.reads 7 (.slice ac cs.length capc) (cs.map Cmd.cells)) (hoff : ∀ k, (Value.slice ac cs.length capc).ownBlock = some k → ¬ footS p b D k) (hn : cs.length ≤ 8796093022208) (hall : ∀ c ∈ cs, c.may = true) :
    Calls Try.prog 31 #[.pointer (some ⟨p, 0, none⟩), .slice ac cs.length capc] w fun e w' => ∃ g D', e = .returned (.tuple #[.slice (some ⟨g, 0, none⟩) cs.length cs.length, .int .i64 0]) ∧ w'.ownL 72 3 (.slice (some ⟨g, 0, none⟩) cs.length cs.length) ((doAll s cs).1.map Res.cells) ∧ w.heap.size ≤ g ∧ ¬ footS p b D' g ∧
      StoreAt w' p b D' (doAll s cs).2 ∧ (∀ x, footM b D' x → footM b D x ∨ w.heap.size ≤ x) ∧ w.turned w' (footS p b D) := by
  have H : Hid (StoreAt w p b D s) := h
  clear h
  go_enter Try.func31, Try.ntmps31
  go_wp2_with fail
  go_loopw [13] (fun i wr => ∃ k : Nat, k ≤ cs.length ∧ i = .int .i64 k ∧ Below w.heap.size w wr) (fun i _ => cs.length - (intOf i).toNat)
  case atStart => exact ⟨0, Nat.zero_le _, rfl, Below.refl _ _⟩
  case round =>
    obtain ⟨k, hk, rfl, hb⟩ := hrel
    by_cases hlt : k < cs.length
    · have hr' : wr.reads 7 (.slice ac cs.length capc) (cs.map Cmd.cells) := hr.keep fun x hx => hb.block x (reads_lt' hr hx)
      obtain ⟨g, o, rfl, hg, hv⟩ := Cmd.at_reads hr' hlt
      obtain ⟨d0, d1, d2, d3, d4, d5, d6⟩ := Cmd.off hv
      have hmay := checkCommand cs[k]
      rw [hall cs[k] (List.getElem_mem _)] at hmay
      generalize cs[k] = c at *
      clear hv hr' hr hall hoff
      have hk1 : (k : Int) < cs.length := by omega
      go_wp2_with (go_at_call 71; refine (hmay _).mono ?_; rintro e w1 ⟨rfl, hb1⟩)
      exact ⟨⟨k + 1, by omega, val_int (by omega), (Gr.alloc hb _).trans (hb1.mono (Gr.alloc hb _).size)⟩, by simp [intOf]; omega⟩
    · have hkk : k = cs.length := by omega
      subst hkk
      go_wp2_with (at_make; refine Held.out ?_)
      unfold Held
      obtain ⟨i0, hi0, hz0, hsz0, hby0⟩ := info_parts infoRes
      refine wpList_make_full _ rfl _ _ 68 rfl 0 72 i0 _ 3 Try.underlying68 hi0 hz0 hsz0 .i64 .i64 _ _ cs.length rfl rfl rfl rfl (by rw [hby0]; omega) (by unfold maxLen; omega) (Nat.zero_le _) ?_
      intro w2 ho2 hg2
      have ho2' : w2.ownL 72 3 (.slice (some ⟨wr.heap.size, 0, none⟩) cs.length cs.length) (List.replicate cs.length [.bool false, .int .i64 0, .bool false]) := made_own (z := #[.bool false, .int .i64 0, .bool false]) (by decide) ho2
      have hB2 : Below w.heap.size w w2 := hb.trans (Below.grown (Below.refl _ _) hg2 (by have := hb.size; omega) (by simp))
      clear ho2
      go_frame
      go_wp2_with fail
      obtain ⟨g, hg0⟩ : ∃ g, wr.heap.size = g := ⟨_, rfl⟩
      rw [hg0] at ho2' ⊢
      have HI0 : Hid (DInv w w2 p b D D s cs g 0 s []) := by
        have hlt2 : ∀ x, footS p b D x → x < w.heap.size := fun x hx => H.out.foot_lt hx
        refine ⟨H.out.grown hB2, fun x hx => .inl hx, .of_below hB2 _, by simpa using ho2', by have := hb.size; omega, fun hx => ?_, rfl⟩
        have := hlt2 g hx; have := hb.size; omega
      clear ho2' hB2 hg2 hg0 hb
      go_loopw [26] (fun i wr => ∃ k D', k ≤ cs.length ∧ i = .int .i64 ((k : Nat) : Int) ∧ Hid (DInv w wr p b D D' s cs g k (doAll s (cs.take k)).2 (doAll s (cs.take k)).1)) (fun i _ => cs.length - (intOf i).toNat)
      case atStart => exact ⟨0, D, Nat.zero_le _, rfl, HI0⟩
      case round =>
        clear HI0
        obtain ⟨k, D1, hk, rfl, HI⟩ := hrel
        by_cases hlt : k < cs.length
        · have hr' : wr.reads 7 (.slice ac cs.length capc) (cs.map Cmd.cells) := hr.keep fun x hx => HI.out.turned.block x (reads_lt' hr hx) (hoff x hx)
          obtain ⟨ga, oa, rfl, hga, hv⟩ := Cmd.at_reads hr' hlt
          obtain ⟨d0, d1, d2, d3, d4, d5, d6⟩ := Cmd.off hv
          have htake : cs.take (k + 1) = cs.take k ++ [cs[k]] := by rw [List.take_add_one, List.getElem?_eq_getElem hlt]; rfl
          have HT : Hid (doAll s (cs.take (k + 1)) = ((doAll s (cs.take k)).1 ++ [((doAll s (cs.take k)).2.result cs[k]).1], ((doAll s (cs.take k)).2.result cs[k]).2)) := by
            show _ = _
            rw [htake, doAll_snoc]
          have hc : CmdBd cs[k] := cmd_bd _ (hall _ (List.getElem_mem _))
          generalize cs[k] = c at *
          have hcall := fun W (hW : Below wr.heap.size wr W) => storeResult W p b D1 _ (HI.out.store.grown hW) c hc
          generalize (doAll s (cs.take k)).2 = s1 at *
          generalize (doAll s (cs.take k)).1 = rs at *
          obtain ⟨r, hr0⟩ : ∃ r, (s1.result c).1 = r := ⟨_, rfl⟩
          rw [hr0] at HT hcall
          obtain ⟨s2, hs2⟩ : ∃ s2, (s1.result c).2 = s2 := ⟨_, rfl⟩
          rw [hs2] at HT hcall
          have HCALL : Hid (∀ W, Below wr.heap.size wr W → Calls Try.prog 72 #[.pointer (some ⟨p, 0, none⟩), (.agg #[.int .i64 c.kind, .string c.key, .string c.val, .string c.old, .int .i64 c.rev, .int .i64 c.ses, .int .i64 c.seq])] W fun e w' => e = .returned (.agg #[.bool r.ok, .int .i64 r.rev, .bool r.stale]) ∧ Chg W w' p b D1 s2) := hcall
          have hk1 : (k : Int) < cs.length := by omega
          clear hv hr' hr hall hoff htake hc hcall hr0 hs2
          go_wp2_with (first | (go_at_call 72; refine (HCALL.out _ (by repeat (first | exact Below.refl _ _ | assumption | with_reducible refine below_drewN ?_ _ | refine Gr.ext ?_ _ | refine Gr.alloc ?_ _ | refine Gr.drew ?_ | (refine Gr.set ?_ (by first | (simp; done) | (simp; omega)) _)))).mono ?_; rintro e w1 ⟨rfl, hg⟩; obtain ⟨D2, HP⟩ := HI.out.call (by repeat (first | exact Below.refl _ _ | assumption | with_reducible refine below_drewN ?_ _ | refine Gr.ext ?_ _ | refine Gr.alloc ?_ _ | refine Gr.drew ?_ | (refine Gr.set ?_ (by first | (simp; done) | (simp; omega)) _))) hg; have HP2 : Hid _ := HP; have ho1 := HP.own; have hlen1 : k < (rs.map Res.cells ++ List.replicate (cs.length - k) zRes).length := (by rw [List.length_append, List.length_map, List.length_replicate, HP.len]; omega); clear hg HP) | (refine wpL_store rfl 72 _ _ rfl 72 3 _ _ ho1 k hlen1 g cs.length cs.length rfl _ rfl rfl #[.bool r.ok, .int .i64 r.rev, .bool r.stale] rfl (by kernel_rfl) rfl (by intro u hu; simp only [List.mem_cons, List.not_mem_nil, or_false] at hu; rcases hu with rfl | rfl | rfl <;> rfl) ?_; intro w3 ho3 hg3))
          exact ⟨⟨k + 1, D2, by omega, val_int (by omega), by rw [HT.out]; exact HP2.out.put hlt ho3 hg3⟩, by simp [intOf]; omega⟩
        · have hkk : k = cs.length := by omega
          subst hkk
          go_wp2_with fail
          have hI := HI.out
          rw [List.take_length] at hI
          refine bodyPost_ret (v := .tuple #[.slice (some ⟨g, 0, none⟩) cs.length cs.length, .int .i64 0]) (by simp [results, Try.results31, go_sem]) rfl ⟨g, D1, rfl, ?_, hI.g0, hI.goff, hI.store, hI.foot, hI.turned⟩
          have := hI.own
          rw [Nat.sub_self, List.replicate_zero, List.append_nil] at this
          exact this
end Go.Proofs.Ytcbbnmodjnnbeaa
/- What a store's texts and numbers are bounded by. -/
set_option linter.unusedSimpArgs false
set_option linter.unusedVariables false
namespace Go.Proofs.Ytcbbnmodjnnbeaa
open Go.RowKit

structure Bnd (s : St) : Prop where
  good : Good s
  key : ∀ k, s.vers k ≠ [] → k.size ≤ 8
  val : ∀ k, ∀ v ∈ s.vers k, v.val.size ≤ 8
  tot : ∀ ks : List ByteArray, ks.Nodup → (ks.map fun k => (s.vers k).length).sum ≤ s.rev
  seq : ∀ x ∈ s.ss, x.1 ≤ 1000000
  res : ∀ x ∈ s.ss, 0 ≤ x.2.rev ∧ x.2.rev ≤ s.rev
theorem sum_le_sum {ks : List ByteArray} {f g : ByteArray → Nat} (h : ∀ k, f k ≤ g k) : (ks.map f).sum ≤ (ks.map g).sum := by
  induction ks with
  | nil => simp
  | cons x xs ih => simp only [List.map_cons, List.sum_cons]; have := h x; omega
theorem sum_one {ks : List ByteArray} (hnd : ks.Nodup) {f g : ByteArray → Nat} {key : ByteArray} (h : ∀ k, k ≠ key → f k = g k) (hk : f key = g key + 1) : (ks.map f).sum ≤ (ks.map g).sum + 1 := by
  induction ks with
  | nil => simp
  | cons x xs ih =>
    obtain ⟨h1, h2⟩ := List.nodup_cons.1 hnd
    simp only [List.map_cons, List.sum_cons]
    by_cases hx : x = key
    · subst hx
      have : (xs.map f) = (xs.map g) := List.map_congr_left fun k hk' => h k fun e => h1 (e ▸ hk')
      rw [this]; omega
    · have := ih h2
      rw [h x hx]; omega
theorem Bnd.lay {s : St} (h : Bnd s) (key val : ByteArray) (gone : Bool) (hk : key.size ≤ 8) (hv : val.size ≤ 8) (hr : s.rev < 1000000) : Bnd (s.lay key val gone) := by
  refine ⟨h.good.lay key val gone hr, fun k hne => ?_, fun k v hv' => ?_, fun ks hnd => ?_, h.seq, fun x hx => ?_⟩
  · by_cases e : k = key
    · rw [e]; exact hk
    · refine h.key k fun e' => hne ?_
      show (if k = key then _ else s.vers k) = []
      rw [if_neg e]; exact e'
  · have hv2 : v ∈ (if k = key then s.vers key ++ [⟨s.rev + 1, val, gone⟩] else s.vers k) := hv'
    by_cases e : k = key
    · rw [if_pos e] at hv2
      rcases List.mem_append.1 hv2 with h1 | h1
      · exact h.val key v h1
      · rw [List.mem_singleton.1 h1]; exact hv
    · rw [if_neg e] at hv2; exact h.val k v hv2
  · have h1 := sum_one (ks := ks) hnd (f := fun k => ((s.lay key val gone).vers k).length) (g := fun k => (s.vers k).length) (key := key) (fun k hk => by
      show (if k = key then _ else s.vers k).length = _
      rw [if_neg hk]) (by
      show (if key = key then s.vers key ++ [⟨s.rev + 1, val, gone⟩] else s.vers key).length = _
      rw [if_pos rfl]; simp)
    have h2 := h.tot ks hnd
    show _ ≤ s.rev + 1
    omega
  · have := h.res x hx
    exact ⟨this.1, by show _ ≤ ((s.rev + 1 : Nat) : Int); omega⟩
theorem Bnd.raise {s : St} (h : Bnd s) (f : Nat) (hf : f ≤ s.rev) : Bnd (s.raise f) := by
  refine ⟨drop_good h.good f hf, fun k hne => h.key k fun e => hne ?_, fun k v hv => h.val k v (List.mem_of_mem_drop hv), fun ks hnd => Nat.le_trans (sum_le_sum fun k => ?_) (h.tot ks hnd), h.seq, h.res⟩
  · show (s.vers k).drop _ = []
    rw [e]; simp
  · show ((s.vers k).drop _).length ≤ _
    rw [List.length_drop]; omega
theorem Bnd.act {s : St} (h : Bnd s) (c : Cmd) (hc : CmdBd c) : Bnd (s.act c).2 := by
  have lay : ∀ (v : ByteArray) (g : Bool), v.size ≤ 8 → Bnd (s.tryLay c.key v g).2 := by
    intro v g hv
    unfold St.tryLay
    split
    · exact h
    · exact h.lay _ _ _ hc.key hv (by have := h.good.rev; omega)
  unfold St.act
  split
  · exact lay _ _ hc.val
  · split
    · split
      · exact lay _ _ hc.val
      · exact h
    · split
      · split
        · exact lay _ _ (by decide)
        · exact h
      · split
        · split
          · exact h.raise _ (by omega)
          · exact h
        · exact h
theorem act_ss (s : St) (c : Cmd) : (s.act c).2.ss = s.ss := by
  have lay : ∀ (v : ByteArray) (g : Bool), (s.tryLay c.key v g).2.ss = s.ss := by
    intro v g
    unfold St.tryLay
    split <;> rfl
  unfold St.act
  split
  · exact lay _ _
  · split
    · split
      · exact lay _ _
      · rfl
    · split
      · split
        · exact lay _ _
        · rfl
      · split
        · split <;> rfl
        · rfl
theorem Bnd.result {s : St} (h : Bnd s) (c : Cmd) (hc : CmdBd c) : Bnd (s.result c).2 := by
  have ha := h.act c hc
  unfold St.result
  split
  · exact ha
  · split
    · exact h
    · split
      · exact h
      · refine ⟨⟨ha.good.rev, ha.good.floor, ha.good.asc, ha.good.bd, ?_⟩, ha.key, ha.val, ha.tot, fun x hx => ?_, fun x hx => ?_⟩
        · show ((s.done c).2.ss.set _ _).length = 8
          rw [List.length_set]; exact ha.good.ss
        · rcases List.mem_or_eq_of_mem_set hx with hx | rfl
          · exact ha.seq x hx
          · show c.seq.toNat ≤ _
            have := hc.q1; omega
        · rcases List.mem_or_eq_of_mem_set hx with hx | rfl
          · exact ha.res x hx
          · exact ⟨by show (0 : Int) ≤ ((s.act c).2.rev : Int); omega, by show ((s.act c).2.rev : Int) ≤ ((s.act c).2.rev : Int); omega⟩
theorem Bnd.all {s : St} (h : Bnd s) : ∀ cs : List Cmd, (∀ c ∈ cs, c.may = true) → Bnd (doAll s cs).2
  | [], _ => h
  | c :: cs, hm => (Bnd.all (h.result c (cmd_bd c (hm c (by simp)))) cs fun x hx => hm x (by simp [hx]))
end Go.Proofs.Ytcbbnmodjnnbeaa
/- Flags, versions and sessions behind bytes. -/
set_option linter.unusedSimpArgs false
set_option linter.unusedVariables false
namespace Go.Proofs.Ytcbbnmodjnnbeaa
open Go.RowKit

def flagL (b : Bool) : List UInt8 := [if b then 1 else 0]
theorem appendFlag (v : Value) (l : List UInt8) (x : Bool) (w : World) (base : Nat) (hown : OwnB w base v l) (hbase : base ≤ w.heap.size) (hl : l.length ≤ 1000000000000) :
    Calls Try.prog 124 #[v, .bool x] w fun e w' => ∃ v', e = .returned v' ∧ OwnB w' base v' (l ++ flagL x) ∧ Grew w w' v v' := by
  have ho : ∀ o, OwnB (w.alloc o) base v l := fun o => hown.alloc o
  clear hown
  have HE0 : Hid ((([0] : List UInt8).map byteV).toArray = #[.int .u8 (0 : Int)]) := rfl
  have HE1 : Hid ((([1] : List UInt8).map byteV).toArray = #[.int .u8 (1 : Int)]) := rfl
  cases x
  · go_enter Try.func124, Try.ntmps124
    go_wp2_with (at_builtin; refine wpB_new rfl _ _ rfl base v l rfl (ho _) _ _ 1 rfl rfl (new_cells HE0.out) (by simp only [List.length_cons, List.length_nil]; omega) (by simp; omega) ?_; intro v1 w1 ho1 hg1)
    go_ret
    exact ⟨v1, rfl, ho1, ((Grew.refl w v).alloc _).trans hg1⟩
  · go_enter Try.func124, Try.ntmps124
    go_wp2_with (at_builtin; refine wpB_new rfl _ _ rfl base v l rfl (ho _) _ _ 1 rfl rfl (new_cells HE1.out) (by simp only [List.length_cons, List.length_nil]; omega) (by simp; omega) ?_; intro v1 w1 ho1 hg1)
    go_ret
    exact ⟨v1, rfl, ho1, ((Grew.refl w v).alloc _).trans hg1⟩
def verL (key : ByteArray) (v : Ver) : List UInt8 := (be 1 key.size ++ key.data.toList) ++ be 3 v.rev ++ flagL v.gone ++ (be 1 v.val.size ++ v.val.data.toList)
set_option maxHeartbeats 1000000 in
theorem appendVersion (v : Value) (l : List UInt8) (key : ByteArray) (x : Ver) (w : World) (base : Nat) (hown : OwnB w base v l) (hbase : base ≤ w.heap.size) (hk : key.size ≤ 8) (hv : x.val.size ≤ 8) (hr : x.rev ≤ 1000000) (hl : l.length ≤ 1000000000) :
    Calls Try.prog 76 #[v, .string key, .agg #[.int .i64 x.rev, .string x.val, .bool x.gone]] w fun e w' => ∃ v', e = .returned v' ∧ OwnB w' base v' (l ++ verL key x) ∧ Grew w w' v v' := by
  have H : Hold w (w.alloc (.cells #[.int .i64 x.rev, .string x.val, .bool x.gone] 158)) base w.heap.size #[.int .i64 x.rev, .string x.val, .bool x.gone] 158 v v l := Hold.start hown hbase
  clear hown
  go_enter Try.func76, Try.ntmps76
  go_wp2_with (first | (go_at_call 124; go_must (refine (appendFlag _ _ _ _ base H.own H.hb (by (try simp only [flagL, List.length_append, List.length_cons, List.length_nil, be_length, len_data]); omega)).mono ?_; rintro e w1 ⟨v1, rfl, ho1, hg1⟩; have H := H.step ho1 hg1; have hk := H.cell; clear ho1 hg1)) | (go_at_call 75; go_must (refine (appendNumber _ _ _ _ base H.own H.hb (by omega) (by (try simp only [flagL, List.length_append, List.length_cons, List.length_nil, be_length, len_data]); omega)).mono ?_; rintro e w1 ⟨v1, rfl, ho1, hg1⟩; have H := H.step ho1 hg1; have hk := H.cell; clear ho1 hg1)) | (go_at_call 123; go_must (refine (appendText _ _ _ _ base H.own H.hb (by omega) (by (try simp only [flagL, List.length_append, List.length_cons, List.length_nil, be_length, len_data]); omega)).mono ?_; rintro e w1 ⟨v1, rfl, ho1, hg1⟩; have H := H.step ho1 hg1; have hk := H.cell; clear ho1 hg1)))
  go_ret
  exact ⟨v1, rfl, by have h := H.own; simpa only [verL, List.append_assoc] using h, H.G⟩
def sesL (x : Nat × Res) : List UInt8 := be 3 x.1 ++ flagL x.2.ok ++ be 3 x.2.rev.toNat
set_option maxHeartbeats 1000000 in
theorem appendSession (v : Value) (l : List UInt8) (x : Nat × Res) (w : World) (base : Nat) (hown : OwnB w base v l) (hbase : base ≤ w.heap.size) (hq : x.1 ≤ 1000000) (hr0 : 0 ≤ x.2.rev) (hr1 : x.2.rev ≤ 1000000) (hl : l.length ≤ 1000000000) :
    Calls Try.prog 77 #[v, .agg #[.int .i64 x.1, .bool x.2.ok, .int .i64 x.2.rev, .bool x.2.stale]] w fun e w' => ∃ v', e = .returned v' ∧ OwnB w' base v' (l ++ sesL x) ∧ Grew w w' v v' := by
  have H : Hold w (w.alloc (.cells #[.int .i64 x.1, .bool x.2.ok, .int .i64 x.2.rev, .bool x.2.stale] 138)) base w.heap.size #[.int .i64 x.1, .bool x.2.ok, .int .i64 x.2.rev, .bool x.2.stale] 138 v v l := Hold.start hown hbase
  clear hown
  go_enter Try.func77, Try.ntmps77
  go_wp2_with (first | (go_at_call 124; go_must (refine (appendFlag _ _ _ _ base H.own H.hb (by (try simp only [flagL, List.length_append, List.length_cons, List.length_nil, be_length, len_data]); omega)).mono ?_; rintro e w1 ⟨v1, rfl, ho1, hg1⟩; have H := H.step ho1 hg1; have hk := H.cell; clear ho1 hg1)) | (go_at_call 75; go_must (refine (appendNumberI _ _ _ _ base H.own H.hb (by omega) (by omega) (by (try simp only [flagL, List.length_append, List.length_cons, List.length_nil, be_length, len_data]); omega)).mono ?_; rintro e w1 ⟨v1, rfl, ho1, hg1⟩; have H := H.step ho1 hg1; have hk := H.cell; clear ho1 hg1)))
  go_ret
  exact ⟨v1, rfl, by have h := H.own; simpa only [sesL, Int.toNat_natCast, List.append_assoc] using h, H.G⟩
end Go.Proofs.Ytcbbnmodjnnbeaa
/- The walk of the program's own test of records. -/
set_option linter.unusedSimpArgs false
set_option linter.unusedVariables false
namespace Go.Proofs.Ytcbbnmodjnnbeaa
open Go.RowKit

theorem same_own2 (r : Rec) : Rec.same r ⟨2, 0, 0, r.term, r.vote, 0, Cmd.zero, ⟨#[]⟩⟩ = ((r.kind == 2) && ((r.gen == 0) && ((r.index == 0) && ((r.many == 0) && (Cmd.same r.cmd Cmd.zero && noB r.data))))) := by
  have h : (r.data == (⟨#[]⟩ : ByteArray)) = noB r.data := by
    rw [beq_toListBytes, ← noB_isEmpty, ByteArray.toList_eq, ByteArray.toList_eq]; obtain ⟨⟨l⟩⟩ := r.data; cases l <;> rfl
  simp only [Rec.same, h, beq_self_eq_true, Bool.true_and]
theorem same_own3 (r : Rec) : Rec.same r ⟨3, 0, r.index, r.term, 0, 0, r.cmd, ⟨#[]⟩⟩ = ((r.kind == 3) && ((r.gen == 0) && ((r.vote == 0) && ((r.many == 0) && noB r.data)))) := by
  have h : (r.data == (⟨#[]⟩ : ByteArray)) = noB r.data := by
    rw [beq_toListBytes, ← noB_isEmpty, ByteArray.toList_eq, ByteArray.toList_eq]; obtain ⟨⟨l⟩⟩ := r.data; cases l <;> rfl
  have hc : Cmd.same r.cmd r.cmd = true := (Cmd.same_iff _ _).2 rfl
  simp only [Rec.same, h, hc, beq_self_eq_true, Bool.true_and]

set_option maxHeartbeats 1000000 in
theorem codecMayBe (r : Rec) (w : World) :
    Calls Try.prog 47 #[(.agg #[.int .i64 r.kind, .int .i64 r.gen, .int .i64 r.index, .int .i64 r.term, .int .i64 r.vote, .int .i64 r.many, .int .i64 r.cmd.kind, .string r.cmd.key, .string r.cmd.val, .string r.cmd.old, .int .i64 r.cmd.rev, .int .i64 r.cmd.ses, .int .i64 r.cmd.seq, .string r.data])] w fun e w' => e = .returned (.bool r.may) ∧ Below w.heap.size w w' := by
  have hd := noB_isEmpty r.data
  have heq0 : ∀ w, (binOp .eql 23 (.agg #[.int .i64 r.cmd.kind, .string r.cmd.key, .string r.cmd.val, .string r.cmd.old, .int .i64 r.cmd.rev, .int .i64 r.cmd.ses, .int .i64 r.cmd.seq]) (.agg #[.int .i64 0, .string ⟨#[]⟩, .string ⟨#[]⟩, .string ⟨#[]⟩, .int .i64 0, .int .i64 0, .int .i64 0])).run Try.prog w = .ok (.bool (Cmd.same r.cmd Cmd.zero)) w := fun w => eql_cmd r.cmd Cmd.zero w
  have heq2 : ∀ w, (binOp .eql 25 (.agg #[.int .i64 r.kind, .int .i64 r.gen, .int .i64 r.index, .int .i64 r.term, .int .i64 r.vote, .int .i64 r.many, .int .i64 r.cmd.kind, .string r.cmd.key, .string r.cmd.val, .string r.cmd.old, .int .i64 r.cmd.rev, .int .i64 r.cmd.ses, .int .i64 r.cmd.seq, .string r.data]) (.agg #[.int .i64 2, .int .i64 0, .int .i64 0, .int .i64 r.term, .int .i64 r.vote, .int .i64 0, .int .i64 0, .string ⟨#[]⟩, .string ⟨#[]⟩, .string ⟨#[]⟩, .int .i64 0, .int .i64 0, .int .i64 0, .string ⟨#[]⟩])).run Try.prog w = .ok (.bool (Rec.same r ⟨2, 0, 0, r.term, r.vote, 0, Cmd.zero, ⟨#[]⟩⟩)) w := fun w => eql_rec r ⟨2, 0, 0, r.term, r.vote, 0, Cmd.zero, ⟨#[]⟩⟩ w
  have heq3 : ∀ w, (binOp .eql 25 (.agg #[.int .i64 r.kind, .int .i64 r.gen, .int .i64 r.index, .int .i64 r.term, .int .i64 r.vote, .int .i64 r.many, .int .i64 r.cmd.kind, .string r.cmd.key, .string r.cmd.val, .string r.cmd.old, .int .i64 r.cmd.rev, .int .i64 r.cmd.ses, .int .i64 r.cmd.seq, .string r.data]) (.agg #[.int .i64 3, .int .i64 0, .int .i64 r.index, .int .i64 r.term, .int .i64 0, .int .i64 0, .int .i64 r.cmd.kind, .string r.cmd.key, .string r.cmd.val, .string r.cmd.old, .int .i64 r.cmd.rev, .int .i64 r.cmd.ses, .int .i64 r.cmd.seq, .string ⟨#[]⟩])).run Try.prog w = .ok (.bool (Rec.same r ⟨3, 0, r.index, r.term, 0, 0, r.cmd, ⟨#[]⟩⟩)) w := fun w => eql_rec r ⟨3, 0, r.index, r.term, 0, 0, r.cmd, ⟨#[]⟩⟩ w
  go_enter Try.func47, Try.ntmps47
  go_wp2_with (first | (go_at_call 79; refine (checkNumber _ _).mono ?_; rintro e w1 ⟨rfl, rfl⟩) | (go_at_call 71; refine (checkCommand r.cmd _).mono ?_; rintro e w1 ⟨rfl, hb1⟩; obtain ⟨hc1, hf1⟩ := bcell hb1))
  all_goals
    go_ret
    refine ⟨ret_bool ?_, ?_⟩
  all_goals go_light
  all_goals clear hd heq0 heq2 heq3
  all_goals first
    | exact (Below.refl _ _).alloc (Nat.le_refl _) _
    | exact (((Below.refl _ _).alloc (Nat.le_refl _) _).alloc (by simp) _).setCell (by simp) _
    | exact ((Below.refl _ _).alloc (Nat.le_refl _) _).alloc (by simp) _
    | exact (((Below.refl _ _).alloc (Nat.le_refl _) _).alloc (by simp) _).trans (hb1.mono (by simp; omega))
    | (simp_all [same_own2, same_own3, Rec.may]; done)
    | (simp_all [same_own2, same_own3, Rec.may]; intros; omega)
    | (simp_all [same_own2, same_own3, Rec.may]; intros; simp_all; done)
end Go.Proofs.Ytcbbnmodjnnbeaa
/- A record put behind a slice. -/
set_option linter.unusedSimpArgs false
set_option linter.unusedVariables false
namespace Go.Proofs.Ytcbbnmodjnnbeaa
open Go.RowKit

set_option maxHeartbeats 1000000 in
theorem appendRecord1 (v : Value) (l : List UInt8) (r : Rec) (w : World) (base : Nat) (hown : OwnB w base v l) (hbase : base ≤ w.heap.size) (hm : r.may = true) (hK : r.kind = 1) (hl : l.length ≤ 100000000) :
    Calls Try.prog 48 #[v, (.agg #[.int .i64 r.kind, .int .i64 r.gen, .int .i64 r.index, .int .i64 r.term, .int .i64 r.vote, .int .i64 r.many, .int .i64 r.cmd.kind, .string r.cmd.key, .string r.cmd.val, .string r.cmd.old, .int .i64 r.cmd.rev, .int .i64 r.cmd.ses, .int .i64 r.cmd.seq, .string r.data])] w fun e w' => ∃ v', e = .returned v' ∧ OwnB w' base v' (l ++ bodyL r) ∧ Grew w w' v v' := by
  have HL : Hid (bodyL r = [UInt8.ofNat 1] ++ (be 3 r.gen.toNat ++ be 3 r.index.toNat ++ be 3 r.term.toNat ++ be 3 r.many.toNat ++ (be 3 r.data.size ++ r.data.data.toList))) := by show _ = _; simp [bodyL, hK, be]
  obtain ⟨a1, a2, a3, a4, a5, a6, a7, a8, a9, -, -⟩ := rec_bd1 r hm hK
  have HE : Hid (([UInt8.ofNat 1].map byteV).toArray = #[.int .u8 r.kind]) := by
    show _ = _
    simp only [List.map_cons, List.map_nil, byteV_of 1 (by omega), hK]
    rfl
  have hk1 : (r.kind == 1) = true := by rw [hK]; rfl
  have hk2 : (r.kind == 2) = false := by rw [hK]; rfl
  have hk3 : (r.kind == 3) = false := by rw [hK]; rfl
  have hk0 : 0 ≤ r.kind := by omega
  have hk9 : r.kind ≤ 9 := by omega
  clear hK hm
  have H : Hold w (w.alloc (.cells #[.int .i64 r.kind, .int .i64 r.gen, .int .i64 r.index, .int .i64 r.term, .int .i64 r.vote, .int .i64 r.many, .int .i64 r.cmd.kind, .string r.cmd.key, .string r.cmd.val, .string r.cmd.old, .int .i64 r.cmd.rev, .int .i64 r.cmd.ses, .int .i64 r.cmd.seq, .string r.data] 25)) base w.heap.size #[.int .i64 r.kind, .int .i64 r.gen, .int .i64 r.index, .int .i64 r.term, .int .i64 r.vote, .int .i64 r.many, .int .i64 r.cmd.kind, .string r.cmd.key, .string r.cmd.val, .string r.cmd.old, .int .i64 r.cmd.rev, .int .i64 r.cmd.ses, .int .i64 r.cmd.seq, .string r.data] 25 v v l := Hold.start hown hbase
  clear hown
  go_enter Try.func48, Try.ntmps48
  go_wp2_with (first | (at_builtin; refine wpB_new rfl _ _ rfl base _ _ rfl (H.alloc _).own _ _ 1 rfl rfl (new_cells' (by simp) HE.out) (by simp only [List.length_append, List.length_cons, List.length_nil, be_length, len_data]; omega) (H.alloc _).hb ?_; intro v1 w1 ho1 hg1; have H := (H.alloc _).step ho1 hg1; have hk := H.cell; clear ho1 hg1) | (go_at_call 75; refine (appendNumberI _ _ _ _ base H.own H.hb (by omega) (by omega) (by simp only [List.length_append, List.length_cons, List.length_nil, be_length, len_data]; omega)).mono ?_; rintro e w1 ⟨v1, rfl, ho1, hg1⟩; have H := H.step ho1 hg1; have hk := H.cell; clear ho1 hg1) | (go_at_call 103; refine (appendBlock _ _ _ _ base H.own H.hb (by omega) (by simp only [List.length_append, List.length_cons, List.length_nil, be_length, len_data]; omega)).mono ?_; rintro e w1 ⟨v1, rfl, ho1, hg1⟩; have H := H.step ho1 hg1; have hk := H.cell; clear ho1 hg1) | (go_at_call 104; refine (appendCommand _ _ r.cmd _ base H.own H.hb hc (by simp only [List.length_append, List.length_cons, List.length_nil, be_length, len_data]; omega)).mono ?_; rintro e w1 ⟨v1, rfl, ho1, hg1⟩; have H := H.step ho1 hg1; have hk := H.cell; clear ho1 hg1))
  go_ret
  exact ⟨v1, rfl, by have h := H.own; rw [HL.out]; simpa only [List.append_assoc] using h, H.G⟩

set_option maxHeartbeats 1000000 in
theorem appendRecord2 (v : Value) (l : List UInt8) (r : Rec) (w : World) (base : Nat) (hown : OwnB w base v l) (hbase : base ≤ w.heap.size) (hm : r.may = true) (hK : r.kind = 2) (hl : l.length ≤ 100000000) :
    Calls Try.prog 48 #[v, (.agg #[.int .i64 r.kind, .int .i64 r.gen, .int .i64 r.index, .int .i64 r.term, .int .i64 r.vote, .int .i64 r.many, .int .i64 r.cmd.kind, .string r.cmd.key, .string r.cmd.val, .string r.cmd.old, .int .i64 r.cmd.rev, .int .i64 r.cmd.ses, .int .i64 r.cmd.seq, .string r.data])] w fun e w' => ∃ v', e = .returned v' ∧ OwnB w' base v' (l ++ bodyL r) ∧ Grew w w' v v' := by
  obtain ⟨a1, a2, a3, a4⟩ := rec_bd2 r hm hK
  obtain ⟨vn, hvn⟩ := Int.eq_ofNat_of_zero_le (show 0 ≤ r.vote + 1 by omega)
  have HE2 : Hid (([UInt8.ofNat vn].map byteV).toArray = #[.int .u8 (r.vote + 1)]) := by
    show _ = _
    simp only [List.map_cons, List.map_nil, byteV_of vn (by omega), hvn]
  have HL : Hid (bodyL r = [UInt8.ofNat 2] ++ (be 3 r.term.toNat ++ [UInt8.ofNat vn])) := by show _ = _; simp [bodyL, hK, be, hvn, Nat.mod_eq_of_lt (show vn < 256 by omega)]
  have hz : r.vote + 1 ≤ 5 := by omega
  have hz0 : 0 ≤ r.vote + 1 := by omega
  clear hvn
  have HE : Hid (([UInt8.ofNat 2].map byteV).toArray = #[.int .u8 r.kind]) := by
    show _ = _
    simp only [List.map_cons, List.map_nil, byteV_of 2 (by omega), hK]
    rfl
  have hk1 : (r.kind == 1) = false := by rw [hK]; rfl
  have hk2 : (r.kind == 2) = true := by rw [hK]; rfl
  have hk3 : (r.kind == 3) = false := by rw [hK]; rfl
  have hk0 : 0 ≤ r.kind := by omega
  have hk9 : r.kind ≤ 9 := by omega
  clear hK hm
  have H : Hold w (w.alloc (.cells #[.int .i64 r.kind, .int .i64 r.gen, .int .i64 r.index, .int .i64 r.term, .int .i64 r.vote, .int .i64 r.many, .int .i64 r.cmd.kind, .string r.cmd.key, .string r.cmd.val, .string r.cmd.old, .int .i64 r.cmd.rev, .int .i64 r.cmd.ses, .int .i64 r.cmd.seq, .string r.data] 25)) base w.heap.size #[.int .i64 r.kind, .int .i64 r.gen, .int .i64 r.index, .int .i64 r.term, .int .i64 r.vote, .int .i64 r.many, .int .i64 r.cmd.kind, .string r.cmd.key, .string r.cmd.val, .string r.cmd.old, .int .i64 r.cmd.rev, .int .i64 r.cmd.ses, .int .i64 r.cmd.seq, .string r.data] 25 v v l := Hold.start hown hbase
  clear hown
  go_enter Try.func48, Try.ntmps48
  go_wp2_with (first | (at_builtin; refine wpB_new rfl _ _ rfl base _ _ rfl (H.alloc _).own _ _ 1 rfl rfl (new_cells' (by simp) HE.out) (by simp only [List.length_append, List.length_cons, List.length_nil, be_length, len_data]; omega) (H.alloc _).hb ?_; intro v1 w1 ho1 hg1; have H := (H.alloc _).step ho1 hg1; have hk := H.cell; clear ho1 hg1) | (at_builtin; refine wpB_new rfl _ _ rfl base _ _ rfl (H.alloc _).own _ _ 1 rfl rfl (new_cells' (by simp) HE2.out) (by simp only [List.length_append, List.length_cons, List.length_nil, be_length, len_data]; omega) (H.alloc _).hb ?_; intro v1 w1 ho1 hg1; have H := (H.alloc _).step ho1 hg1; have hk := H.cell; clear ho1 hg1) | (go_at_call 75; refine (appendNumberI _ _ _ _ base H.own H.hb (by omega) (by omega) (by simp only [List.length_append, List.length_cons, List.length_nil, be_length, len_data]; omega)).mono ?_; rintro e w1 ⟨v1, rfl, ho1, hg1⟩; have H := H.step ho1 hg1; have hk := H.cell; clear ho1 hg1) | (go_at_call 103; refine (appendBlock _ _ _ _ base H.own H.hb (by omega) (by simp only [List.length_append, List.length_cons, List.length_nil, be_length, len_data]; omega)).mono ?_; rintro e w1 ⟨v1, rfl, ho1, hg1⟩; have H := H.step ho1 hg1; have hk := H.cell; clear ho1 hg1) | (go_at_call 104; refine (appendCommand _ _ r.cmd _ base H.own H.hb hc (by simp only [List.length_append, List.length_cons, List.length_nil, be_length, len_data]; omega)).mono ?_; rintro e w1 ⟨v1, rfl, ho1, hg1⟩; have H := H.step ho1 hg1; have hk := H.cell; clear ho1 hg1))
  go_ret
  exact ⟨v1, rfl, by have h := H.own; rw [HL.out]; simpa only [List.append_assoc] using h, H.G⟩

set_option maxHeartbeats 1000000 in
theorem appendRecord3 (v : Value) (l : List UInt8) (r : Rec) (w : World) (base : Nat) (hown : OwnB w base v l) (hbase : base ≤ w.heap.size) (hm : r.may = true) (hK : r.kind = 3) (hl : l.length ≤ 100000000) :
    Calls Try.prog 48 #[v, (.agg #[.int .i64 r.kind, .int .i64 r.gen, .int .i64 r.index, .int .i64 r.term, .int .i64 r.vote, .int .i64 r.many, .int .i64 r.cmd.kind, .string r.cmd.key, .string r.cmd.val, .string r.cmd.old, .int .i64 r.cmd.rev, .int .i64 r.cmd.ses, .int .i64 r.cmd.seq, .string r.data])] w fun e w' => ∃ v', e = .returned v' ∧ OwnB w' base v' (l ++ bodyL r) ∧ Grew w w' v v' := by
  have HL : Hid (bodyL r = [UInt8.ofNat 3] ++ (be 3 r.index.toNat ++ be 3 r.term.toNat ++ cmdL r.cmd)) := by show _ = _; simp [bodyL, hK, be]
  obtain ⟨a1, a2, a3, a4, a5⟩ := rec_bd3 r hm hK
  have hc := cmd_bd r.cmd a5
  clear a5
  have HE : Hid (([UInt8.ofNat 3].map byteV).toArray = #[.int .u8 r.kind]) := by
    show _ = _
    simp only [List.map_cons, List.map_nil, byteV_of 3 (by omega), hK]
    rfl
  have hk1 : (r.kind == 1) = false := by rw [hK]; rfl
  have hk2 : (r.kind == 2) = false := by rw [hK]; rfl
  have hk3 : (r.kind == 3) = true := by rw [hK]; rfl
  have hk0 : 0 ≤ r.kind := by omega
  have hk9 : r.kind ≤ 9 := by omega
  clear hK hm
  have H : Hold w (w.alloc (.cells #[.int .i64 r.kind, .int .i64 r.gen, .int .i64 r.index, .int .i64 r.term, .int .i64 r.vote, .int .i64 r.many, .int .i64 r.cmd.kind, .string r.cmd.key, .string r.cmd.val, .string r.cmd.old, .int .i64 r.cmd.rev, .int .i64 r.cmd.ses, .int .i64 r.cmd.seq, .string r.data] 25)) base w.heap.size #[.int .i64 r.kind, .int .i64 r.gen, .int .i64 r.index, .int .i64 r.term, .int .i64 r.vote, .int .i64 r.many, .int .i64 r.cmd.kind, .string r.cmd.key, .string r.cmd.val, .string r.cmd.old, .int .i64 r.cmd.rev, .int .i64 r.cmd.ses, .int .i64 r.cmd.seq, .string r.data] 25 v v l := Hold.start hown hbase
  clear hown
  go_enter Try.func48, Try.ntmps48
  go_wp2_with (first | (at_builtin; refine wpB_new rfl _ _ rfl base _ _ rfl (H.alloc _).own _ _ 1 rfl rfl (new_cells' (by simp) HE.out) (by simp only [List.length_append, List.length_cons, List.length_nil, be_length, len_data]; omega) (H.alloc _).hb ?_; intro v1 w1 ho1 hg1; have H := (H.alloc _).step ho1 hg1; have hk := H.cell; clear ho1 hg1) | (go_at_call 75; refine (appendNumberI _ _ _ _ base H.own H.hb (by omega) (by omega) (by simp only [List.length_append, List.length_cons, List.length_nil, be_length, len_data]; omega)).mono ?_; rintro e w1 ⟨v1, rfl, ho1, hg1⟩; have H := H.step ho1 hg1; have hk := H.cell; clear ho1 hg1) | (go_at_call 103; refine (appendBlock _ _ _ _ base H.own H.hb (by omega) (by simp only [List.length_append, List.length_cons, List.length_nil, be_length, len_data]; omega)).mono ?_; rintro e w1 ⟨v1, rfl, ho1, hg1⟩; have H := H.step ho1 hg1; have hk := H.cell; clear ho1 hg1) | (go_at_call 104; refine (appendCommand _ _ r.cmd _ base H.own H.hb hc (by simp only [List.length_append, List.length_cons, List.length_nil, be_length, len_data]; omega)).mono ?_; rintro e w1 ⟨v1, rfl, ho1, hg1⟩; have H := H.step ho1 hg1; have hk := H.cell; clear ho1 hg1))
  go_ret
  exact ⟨v1, rfl, by have h := H.own; rw [HL.out]; simpa only [List.append_assoc] using h, H.G⟩

theorem appendRecord (v : Value) (l : List UInt8) (r : Rec) (w : World) (base : Nat) (hown : OwnB w base v l) (hbase : base ≤ w.heap.size) (hm : r.may = true) (hl : l.length ≤ 100000000) :
    Calls Try.prog 48 #[v, (.agg #[.int .i64 r.kind, .int .i64 r.gen, .int .i64 r.index, .int .i64 r.term, .int .i64 r.vote, .int .i64 r.many, .int .i64 r.cmd.kind, .string r.cmd.key, .string r.cmd.val, .string r.cmd.old, .int .i64 r.cmd.rev, .int .i64 r.cmd.ses, .int .i64 r.cmd.seq, .string r.data])] w fun e w' => ∃ v', e = .returned v' ∧ OwnB w' base v' (l ++ bodyL r) ∧ Grew w w' v v' := by
  rcases rec_kind r hm with h | h | h
  · exact appendRecord1 v l r w base hown hbase hm h hl
  · exact appendRecord2 v l r w base hown hbase hm h hl
  · exact appendRecord3 v l r w base hown hbase hm h hl

/-- string(b) of what is owned. -/
theorem conv_own {w : World} {base : Nat} {v : Value} {l : List UInt8} (h : OwnB w base v l) : (convert 47 9 v).run Try.prog w = .ok (.string (B l)) w := by
  have hB : strOfNums (l.map fun c => (c.toNat : Int)) = B l := by
    unfold strOfNums B
    simp [Function.comp_def]
  rcases h.2 with ⟨rfl, hn⟩ | ⟨g, cap, cur, rfl, hg, hh, hn, hc, hcs, ht⟩
  · have : l = [] := List.eq_nil_of_length_eq_zero hn
    subst this
    exact run_convert_bytes_nil w 47 5 Try.underlying47 Try.underlying5 0 0 9 Try.underlying9
  · rw [← hB]
    refine run_convert_bytes_arg w 47 5 Try.underlying47 Try.underlying5 g 0 l.length cap _ (by simp) (fun i hi => ?_) 9 Try.underlying9
    have h1 : (l.map byteV)[i]? = cur[i]? := by
      rw [← ht, List.getElem?_take_of_lt (by omega), Array.getElem?_toList]
    simp only [World.cell?, hh, Nat.zero_add]
    rw [show (if (none : Option Nat).isSome then none else cur[i]?) = cur[i]? from rfl, ← h1]
    simp [List.getD, hi, byteV]

set_option maxHeartbeats 400000 in
theorem sealOf (s : ByteArray) (w : World) (hs : s.size ≤ maxLen) :
    Calls Try.prog 49 #[.string s] w fun e w' => e = .returned (.string (B (be 4 (By.sum s.data.toList)))) ∧ Below w.heap.size w w' := by
  have hc := conv4
  have hlt := By.sum_lt s.data.toList
  have HB : ∀ n, n < 4294967296 → Hid (B (be 4 n) = B [UInt8.ofNat (n / 16777216), UInt8.ofNat (n / 65536 % 256), UInt8.ofNat (n / 256 % 256), UInt8.ofNat (n % 256)]) := by
    intro n hn
    show _ = _
    simp [be, Nat.mod_eq_of_lt (show n / 16777216 < 256 by omega)]
  have HB := HB _ hlt
  go_enter Try.func49, Try.ntmps49
  go_wp2_with (go_at_call 12; refine (codecSum s _ hs).mono ?_; rintro e w1 ⟨rfl, rfl⟩)
  go_ret
  exact ⟨congrArg (fun b => Ending.returned (.string b)) HB.out.symm, (by repeat (first | exact Below.refl _ _ | assumption | refine Gr.ext ?_ _ | refine Gr.alloc ?_ _ | refine Gr.drew ?_ | (refine Gr.set ?_ (by first | (simp; done) | (simp; omega)) _)))⟩

theorem bodyL_len (r : Rec) (hm : r.may = true) : (bodyL r).length ≤ 1000100 := by
  rcases rec_kind r hm with h | h | h
  · have := (rec_bd1 r hm h).2.2.2.2.2.2.2.2.1
    simp [bodyL, h, be_length, len_data]; omega
  · simp [bodyL, h, be_length]
  · have hc := cmd_bd r.cmd (rec_bd3 r hm h).2.2.2.2
    have z1 := hc.key
    have z2 := hc.val
    have z3 := hc.old
    simp [bodyL, h, be_length, cmdL_length]; omega

set_option maxHeartbeats 1000000 in
theorem codecEncode (r : Rec) (w : World) (hm : r.may = true) :
    Calls Try.prog 14 #[(.agg #[.int .i64 r.kind, .int .i64 r.gen, .int .i64 r.index, .int .i64 r.term, .int .i64 r.vote, .int .i64 r.many, .int .i64 r.cmd.kind, .string r.cmd.key, .string r.cmd.val, .string r.cmd.old, .int .i64 r.cmd.rev, .int .i64 r.cmd.ses, .int .i64 r.cmd.seq, .string r.data])] w fun e w' => e = .returned (.tuple #[.string (B (encL r)), .int .i64 0]) ∧ Below w.heap.size w w' := by
  have hl := bodyL_len r hm
  have hE : encL r = bodyL r ++ be 4 (By.sum (bodyL r)) := rfl
  have HE : Hid (encL r = bodyL r ++ be 4 (By.sum (bodyL r))) := hE
  clear hE
  go_enter Try.func14, Try.ntmps14
  go_wp2_with (first | (go_at_call 47; refine (codecMayBe r _).mono ?_; rintro e w1 ⟨rfl, hb1⟩; obtain ⟨x1, rfl⟩ := Below.ext hb1; clear hb1) | (go_at_call 48; refine (appendRecord _ [] r _ _ (OwnB.nil _ 0) (Nat.zero_le _) hm (by simp)).mono ?_; rintro e w2 ⟨v2, rfl, ho2, hg2⟩; have hcv := conv_own ho2; simp only [List.nil_append] at hcv; obtain ⟨x2, rfl⟩ := Below.ext (hg2.below (by simp [Value.ownBlock])); clear ho2 hg2) | (go_at_call 49; refine (sealOf _ _ (by simp only [B_size]; unfold maxLen; omega)).mono ?_; rintro e w3 ⟨rfl, hb3⟩; obtain ⟨x3, rfl⟩ := Below.ext hb3; clear hb3))
  go_ret2
  exact ⟨ret2_str (by rw [HE.out]) rfl, (by repeat (first | exact Below.refl _ _ | assumption | refine Gr.ext ?_ _ | refine Gr.alloc ?_ _ | refine Gr.drew ?_ | (refine Gr.set ?_ (by first | (simp; done) | (simp; omega)) _)))⟩
set_option maxHeartbeats 400000 in
theorem codecEncode_no (r : Rec) (w : World) (hm : r.may = false) :
    Calls Try.prog 14 #[(.agg #[.int .i64 r.kind, .int .i64 r.gen, .int .i64 r.index, .int .i64 r.term, .int .i64 r.vote, .int .i64 r.many, .int .i64 r.cmd.kind, .string r.cmd.key, .string r.cmd.val, .string r.cmd.old, .int .i64 r.cmd.rev, .int .i64 r.cmd.ses, .int .i64 r.cmd.seq, .string r.data])] w fun e w' => e = .returned (.tuple #[.string (B []), .int .i64 2]) ∧ Below w.heap.size w w' := by
  go_enter Try.func14, Try.ntmps14
  go_wp2_with (go_at_call 47; refine (codecMayBe r _).mono ?_; rintro e w1 ⟨rfl, hb1⟩; obtain ⟨x1, rfl⟩ := Below.ext hb1; clear hb1)
  go_ret2
  exact ⟨rfl, (by repeat (first | exact Below.refl _ _ | assumption | refine Gr.ext ?_ _ | refine Gr.alloc ?_ _ | refine Gr.drew ?_ | (refine Gr.set ?_ (by first | (simp; done) | (simp; omega)) _)))⟩
end Go.Proofs.Ytcbbnmodjnnbeaa
/- The walk of the store's New. -/
set_option linter.unusedSimpArgs false
set_option linter.unusedVariables false
namespace Go.Proofs.Ytcbbnmodjnnbeaa
open Go.RowKit

def St.empty : St := ⟨0, 0, fun _ => [], List.replicate 8 (0, ⟨false, 0, false⟩)⟩
theorem storeNew (w : World) : Calls Try.prog 25 #[] w fun e w' => ∃ p b D, e = .returned (.pointer (some ⟨p, 0, none⟩)) ∧ StoreAt w' p b D St.empty ∧ (∀ x, footS p b D x → w.heap.size ≤ x) ∧ Below w.heap.size w w' := by
  have hmm := @run_makeMap Try.prog
  go_enter Try.func25, Try.ntmps25
  go_wp2_with fail
  refine world_any (F := fun W => W.heap[w.heap.size]? = some (.map #[] 0) ∧ W.heap[w.heap.size + 1]? = some (.cells (St.empty.cells w.heap.size) 141) ∧ Below w.heap.size w W) ⟨Hp.alloc (Hp.new rfl) _, Hp.new (by simp), (by repeat (first | exact Below.refl _ _ | assumption | with_reducible refine below_drewN ?_ _ | refine Gr.ext ?_ _ | refine Gr.alloc ?_ _ | refine Gr.drew ?_ | (refine Gr.set ?_ (by first | (simp; done) | (simp; omega)) _)))⟩ ?_
  rintro W ⟨hm, hc, hB⟩
  have hD : ∀ k u, hdAt (.map []) k u ↔ u = nilS := fun k u => ⟨fun h => by injection h with h; exact h.symm, fun h => by rw [h]; rfl⟩
  have hf : ∀ x, footM w.heap.size (.map []) x → x = w.heap.size := fun x hx => by
    rcases hx with rfl | ⟨k, v, hv, hx⟩
    · rfl
    · rw [(hD k v).1 hv] at hx; cases hx
  refine bodyPost_ret (v := .pointer (some ⟨w.heap.size + 1, 0, none⟩)) (by simp [results, Try.results25, go_sem]) rfl ⟨w.heap.size + 1, w.heap.size, .map [], rfl, ⟨hc, ?_, ⟨by decide, by decide, fun k => List.Pairwise.nil, (fun k v hv => by cases hv), rfl⟩, Nat.zero_le _⟩, fun x hx => ?_, hB⟩
  · refine ⟨?_, fun k => ⟨nilS, (hD k _).2 rfl, World.ownL.nil _ _ _⟩, fun k v x hv hx => ?_, fun k k' v v' x _ hv _ hx => ?_, fun k => ?_⟩
    · have h1 := (World.ownsMap_made (H := Value) W Try.prog 9 rawElem)
      obtain ⟨es, clock, e1, e2, e3, e4⟩ := h1
      rw [heap_alloc_new] at e1
      injection e1 with e1
      injection e1 with e5 e6
      subst e5 e6
      exact ⟨_, _, hm, e2, Nat.zero_le _, e4⟩
    · rw [(hD k v).1 hv] at hx; cases hx
    · rw [(hD k v).1 hv] at hx; cases hx
    · show Maps.has (.map []) (kl k) = true ↔ ([] : List Ver) ≠ []
      simp [Maps.has]
  · rcases hx with rfl | hx
    · omega
    · have := hf x hx; omega
end Go.Proofs.Ytcbbnmodjnnbeaa
