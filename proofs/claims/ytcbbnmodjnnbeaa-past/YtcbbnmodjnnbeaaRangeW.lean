/- The walk of the store's Range. -/
import Derived.Test.YtcbbnmodjnnbeaaKeys
import Derived.Test.YtcbbnmodjnnbeaaLook
set_option linter.unusedSimpArgs false
set_option linter.unusedVariables false
namespace Go.Proofs.Ytcbbnmodjnnbeaa
open Go.RowKit

set_option maxRecDepth 100000 in
set_option maxHeartbeats 1000000 in
theorem storeRangeArg (w : World) (p : Nat) (lo hi : ByteArray) (rev most : Int) (hm : most < 0) :
    Calls Try.prog 32 #[.pointer (some ⟨p, 0, none⟩), .string lo, .string hi, .int .i64 rev, .int .i64 most] w fun e w' => e = .returned (.tuple #[nilS, .int .i64 2]) ∧ Below w.heap.size w w' := by
  go_enter Try.func32, Try.ntmps32
  go_wp2_with fail
  exact bodyPost_ret (v := .tuple #[nilS, .int .i64 2]) (by simp [results, Try.results32, go_sem]) rfl ⟨rfl, (by repeat (first | exact Below.refl _ _ | assumption | with_reducible refine below_drewN ?_ _ | refine Gr.ext ?_ _ | refine Gr.alloc ?_ _ | refine Gr.drew ?_ | (refine Gr.set ?_ (by first | (simp; done) | (simp; omega)) _)))⟩
set_option maxRecDepth 100000 in
set_option maxHeartbeats 1000000 in
theorem storeRangeRev (w : World) (p b : Nat) (D : DataW Value) (s : St) (h : StoreAt w p b D s) (lo hi : ByteArray) (rev most : Int) (hm : 0 ≤ most) (hr : rev < s.floor ∨ (s.rev : Int) < rev) :
    Calls Try.prog 32 #[.pointer (some ⟨p, 0, none⟩), .string lo, .string hi, .int .i64 rev, .int .i64 most] w fun e w' => e = .returned (.tuple #[nilS, .int .i64 9]) ∧ Below w.heap.size w w' := by
  obtain ⟨c0, c1, c2, cf⟩ := st_cells h.blk
  clear h
  by_cases h1 : rev < s.floor
  · go_enter Try.func32, Try.ntmps32
    go_wp2_with fail
    exact bodyPost_ret (v := .tuple #[nilS, .int .i64 9]) (by simp [results, Try.results32, go_sem]) rfl ⟨rfl, (by repeat (first | exact Below.refl _ _ | assumption | with_reducible refine below_drewN ?_ _ | refine Gr.ext ?_ _ | refine Gr.alloc ?_ _ | refine Gr.drew ?_ | (refine Gr.set ?_ (by first | (simp; done) | (simp; omega)) _)))⟩
  · have h2 : (s.rev : Int) < rev := by omega
    go_enter Try.func32, Try.ntmps32
    go_wp2_with fail
    exact bodyPost_ret (v := .tuple #[nilS, .int .i64 9]) (by simp [results, Try.results32, go_sem]) rfl ⟨rfl, (by repeat (first | exact Below.refl _ _ | assumption | with_reducible refine below_drewN ?_ _ | refine Gr.ext ?_ _ | refine Gr.alloc ?_ _ | refine Gr.drew ?_ | (refine Gr.set ?_ (by first | (simp; done) | (simp; omega)) _)))⟩

/-- What is told of a key. -/
def fndAt (s : St) (rev : Int) (k : ByteArray) : Option Fnd := (look (s.vers k) rev).map fun x => ⟨k, x.1, x.2⟩
theorem HMap.key_le {w : World} {p b : Nat} {D : DataW Value} {vers : ByteArray → List Ver} (h : HMap w p b D vers) {k : ByteArray} (hk : vers k ≠ []) : k.size ≤ maxLen := by
  have hhas := (h.has k).2 hk
  obtain ⟨es, rfl, hes⟩ := h.map.keysOf
  rw [Maps.has_eq, List.any_eq_true] at hhas
  obtain ⟨q, hq, hs⟩ := hhas
  have hne : q.1 = kl k := Classical.byContradiction fun hn => by rw [Maps.sameKey_ne hn] at hs; cases hs
  have := hes q hq
  rw [hne] at this
  obtain ⟨v, hv⟩ := this
  obtain ⟨k', _, h2, h3⟩ := str_inv _ _ hv
  rw [kl_inj h2]; exact h3
theorem infoFnd : (Try.prog.info? 131).map (fun i => (i.zero, i.size, i.bytes)) = some (some (.agg #[.string ⟨#[]⟩, .string ⟨#[]⟩, .int .i64 0]), 3, 40) := by kernel_rfl
theorem Str.at_reads {w : World} {a : Option Addr} {n cap : Nat} {ks : List ByteArray} (h : w.reads 1 (.slice a n cap) (ks.map fun k => [Value.string k])) {k : Nat} (hk : k < ks.length) : ∃ g o, a = some ⟨g, o, none⟩ ∧ g < w.heap.size ∧ w.cell? ⟨g, o + k, none⟩ = some (.string ks[k]) := by
  rcases h with ⟨_, h2⟩ | ⟨g, off, cap', hv, hg, hc⟩
  · have : ks = [] := by simpa using h2
    subst this; simp at hk
  · injection hv with h1 h2 h3
    refine ⟨g, off, h1, hg, ?_⟩
    have := (hc k [Value.string ks[k]] (by rw [List.getElem?_map, List.getElem?_eq_getElem hk]; rfl)).2 0 _ rfl
    simpa using this
theorem rangeIs_of {s : St} {lo hi : ByteArray} {rev : Int} {ks : List ByteArray} (h1 : ks.Pairwise fun a b => a.data.toList < b.data.toList) (h2 : ∀ k, k ∈ ks ↔ s.vers k ≠ [] ∧ inR lo hi k) : RangeIs s lo hi rev (ks.filterMap (fndAt s rev)) := by
  have hkey : ∀ k f, fndAt s rev k = some f → f.key = k := by
    intro k f h
    unfold fndAt at h
    cases hl : look (s.vers k) rev with
    | none => rw [hl] at h; cases h
    | some x => rw [hl] at h; injection h with h; rw [← h]
  refine ⟨?_, fun f => ?_⟩
  · rw [List.pairwise_filterMap]
    refine h1.imp fun {a c} h x hx y hy => ?_
    rw [hkey a x hx, hkey c y hy]; exact h
  · rw [List.mem_filterMap]
    constructor
    · rintro ⟨k, hk, hf⟩
      have hfk := hkey k f hf
      obtain ⟨_, h3, h4⟩ := (h2 k).1 hk
      subst hfk
      refine ⟨h3, h4, ?_⟩
      unfold fndAt at hf
      cases hl : look (s.vers f.key) rev with
      | none => rw [hl] at hf; cases hf
      | some x =>
        rw [hl] at hf
        injection hf with hf
        refine ⟨x.2, ?_, by rw [← hf]⟩
        congr 1
        obtain ⟨x1, x2⟩ := x
        rw [show f.val = x1 by rw [← hf]]
    · rintro ⟨h3, h4, r, h5, h6⟩
      refine ⟨f.key, (h2 _).2 ⟨fun e => ?_, h3, h4⟩, ?_⟩
      · rw [e] at h5; simp [look, atV, upToN, Ver.none] at h5
      · unfold fndAt; rw [h5]
        obtain ⟨fk, fv, fr⟩ := f
        simp at h6
        simp [h6]
structure FInv (w1 wr : World) (fs : List Fnd) (v : Value) : Prop where
  own : wr.ownL 131 3 v (fs.map Fnd.cells)
  new : ∀ x, v.ownBlock = some x → w1.heap.size ≤ x
  below : Below w1.heap.size w1 wr
theorem FInv.grow {w1 wr W : World} {fs : List Fnd} {v : Value} (h : FInv w1 wr fs v) (hb : Below wr.heap.size wr W) : FInv w1 W fs v :=
  ⟨h.own.keep fun x hx => hb.block x (h.own.lt hx), h.new, h.below.trans (hb.mono h.below.size)⟩
theorem FInv.add {w1 wr W w3 : World} {fs : List Fnd} {f : Fnd} {v v' : Value} (h : FInv w1 wr fs v) (hb : Below wr.heap.size wr W) (ho : w3.ownL 131 3 v' (fs.map Fnd.cells ++ [f.cells])) (hg : Grew W w3 v v') : FInv w1 w3 (fs ++ [f]) v' := by
  have h1 := h.below.size
  have h2 := hb.size
  refine ⟨by rw [List.map_append]; exact ho, fun x hx => ?_, (h.below.trans (hb.mono h1)).trans ⟨hg.g.os, hg.g.tape, hg.g.output, hg.g.size, fun k hk => hg.g.block k (by omega) fun e => by have := h.new k e.symm; omega⟩⟩
  rcases hg.own with h3 | h3
  · exact h.new x (h3 ▸ hx)
  · have := h3 x hx; omega
set_option maxRecDepth 100000 in
set_option maxHeartbeats 1000000 in
theorem storeRangeOk (w : World) (p b : Nat) (D : DataW Value) (s : St) (h : StoreAt w p b D s) (lo hi : ByteArray) (rev : Int) (most : Nat) (hr1 : (s.floor : Int) ≤ rev) (hr2 : rev ≤ s.rev) (hm : most < 9223372036854775808) :
    Calls Try.prog 32 #[.pointer (some ⟨p, 0, none⟩), .string lo, .string hi, .int .i64 rev, .int .i64 most] w fun e w' => ∃ (l : List Fnd) (v : Value), e = .returned (.tuple #[v, .int .i64 0]) ∧ RangeIs s lo hi rev l ∧ w'.ownL 131 3 v ((l.take most).map Fnd.cells) ∧ (∀ x, v.ownBlock = some x → w.heap.size ≤ x) ∧ Below w.heap.size w w' := by
  obtain ⟨c0, c1, c2, cf⟩ := st_cells h.blk
  have H : Hid (StoreAt w p b D s) := h
  have hp : p < w.heap.size := (Array.getElem?_eq_some_iff.1 h.blk).1
  have hd0 : decide ((most : Int) < 0) = false := decide_eq_false (by omega)
  have hd1 : decide (rev < (s.floor : Int)) = false := decide_eq_false (by omega)
  have hd2 : decide ((s.rev : Int) < rev) = false := decide_eq_false (by omega)
  clear h
  go_enter Try.func32, Try.ntmps32
  go_wp2_with (go_at_call 73; refine (storeKeys _ p b D s (H.out.grown (by repeat (first | exact Below.refl _ _ | assumption | with_reducible refine below_drewN ?_ _ | refine Gr.ext ?_ _ | refine Gr.alloc ?_ _ | refine Gr.drew ?_ | (refine Gr.set ?_ (by first | (simp; done) | (simp; omega)) _)))) lo hi).mono ?_; rintro e w1 ⟨ks, kv, rfl, hko, hkn, hks, hkm, hkb, hkl⟩; obtain ⟨ka, kcap, hkv⟩ : ∃ a cap, kv = .slice a ks.length cap := (by obtain ⟨a, c, h⟩ := hko.len; rw [List.length_map] at h; exact ⟨a, c, h⟩); subst hkv)
  have HKM : Hid ((ks.Pairwise fun a b => a.data.toList < b.data.toList) ∧ ∀ k, k ∈ ks ↔ s.vers k ≠ [] ∧ inR lo hi k) := ⟨hks, hkm⟩
  have hS1 : StoreAt w1 p b D s := H.out.grown hkb
  have HI0 : Hid (FInv w1 w1 [] nilS) := ⟨World.ownL.nil _ _ _, (fun x hx => by cases hx), Below.refl _ _⟩
  have HKB : Hid (Below w.heap.size w w1) := hkb
  have hkr : w1.reads 1 (.slice ka ks.length kcap) (ks.map fun k => [Value.string k]) := hko.reads
  clear hks hkm hko hkn hkb c0 c1 c2 cf hp
  go_loopw [12, 37] (fun v i wr => ∃ (k : Nat) (fs : List Fnd), k ≤ ks.length ∧ i = .int .i64 k ∧ Hid (fs = (ks.take k).filterMap (fndAt s rev)) ∧ fs.length ≤ most ∧ Hid (FInv w1 wr fs v)) (fun _ i _ => ks.length - (intOf i).toNat)
  case atStart => exact ⟨0, [], Nat.zero_le _, rfl, rfl, Nat.zero_le _, HI0⟩
  case round =>
    clear HI0
    obtain ⟨k, fs, hk, rfl, HFS, hfm, HI⟩ := hrel
    obtain ⟨fa, fcap, hfv⟩ : ∃ a cap, u12 = .slice a fs.length cap := by obtain ⟨a, c, h⟩ := HI.out.own.len; rw [List.length_map] at h; exact ⟨a, c, h⟩
    subst hfv
    by_cases hlt : k < ks.length
    · have hb := HI.out.below
      have hkr' : wr.reads 1 (.slice ka ks.length kcap) (ks.map fun k => [Value.string k]) := hkr.keep fun x hx => hb.block x (reads_lt' hkr hx)
      obtain ⟨g, o, rfl, hg, d0⟩ := Str.at_reads hkr' hlt
      have htake : Hid ((ks.take (k + 1)).filterMap (fndAt s rev) = fs ++ (fndAt s rev ks[k]).toList) := by
        show _ = _
        rw [List.take_add_one, List.getElem?_eq_getElem hlt, List.filterMap_append, ← HFS.out]
        simp [List.filterMap_cons]
        cases fndAt s rev ks[k] <;> rfl
      have hk1 : (k : Int) < ks.length := by omega
      by_cases hmm : fs.length = most
      · have hm1 : ((fs.length : Int) == (most : Int)) = true := by rw [beq_iff_eq]; omega
        clear hkr hkr'
        go_wp2_with fail
        refine bodyPost_ret (v := .tuple #[.slice fa fs.length fcap, .int .i64 0]) (by simp [results, Try.results32, go_sem]) rfl ⟨ks.filterMap (fndAt s rev), .slice fa fs.length fcap, rfl, rangeIs_of HKM.out.1 HKM.out.2, ?_, fun x hx => Nat.le_trans HKB.out.size (HI.out.new x hx), HKB.out.trans (HI.out.below.mono HKB.out.size)⟩
        have e : (ks.filterMap (fndAt s rev)).take most = fs := by
          rw [← List.take_append_drop k ks, List.filterMap_append, ← HFS.out, ← hmm, List.take_left]
        rw [e]; exact HI.out.own
      · have hm1 : ((fs.length : Int) == (most : Int)) = false := by rw [beq_eq_false_iff_ne]; omega
        have hkey0 : ∃ key, ks[k] = key := ⟨_, rfl⟩
        obtain ⟨key, hkey⟩ := hkey0
        rw [hkey] at d0 htake
        have hSr : StoreAt wr p b D s := hS1.grown hb
        obtain ⟨c0, c1, c2, cf⟩ := st_cells hSr.blk
        have hp : p < wr.heap.size := (Array.getElem?_eq_some_iff.1 hSr.blk).1
        obtain ⟨hd, hhd, hho⟩ := hSr.map.hist key
        obtain ⟨ah, caph, hah⟩ := hho.len
        rw [List.length_map] at hah
        subst hah
        have hblt := hSr.map.map.lt
        obtain ⟨es, clock, hb5, hF, hs5, hD5⟩ := hSr.map.map
        have HKX : key.size ≤ maxLen := hSr.map.key_le ((HKM.out.2 key).1 (hkey ▸ List.getElem_mem hlt)).1
        have hlook : ∀ w' : World, w'.heap[b]? = some (.map es clock) → (Instr.lookup 136 (.map (some b)) (.string key) false).run Try.prog w' = .ok (.slice ah (s.vers key).length caph) w' := by
          intro w' hb'
          have ho : w'.ownsMap Try.prog 9 rawElem b (Maps.size D) D := ⟨es, clock, hb', hF, hs5, hD5⟩
          obtain ⟨v, ps, hrun, hraw⟩ := ho.lookup strKeyed Try.underlying136 (z := nilS) (by kernel_rfl) (zd := .held nilS) (zp := []) rfl (key_of key HKX)
          have hv : D.atKey (kl key) (.held nilS) = .held v := by have := (rawElem_inv hraw).1; injection this with this _
          rw [hrun, hdAt_one (hv : hdAt D key v) hhd]
        have hlk0 := hlook wr hb5
        have hlk1 := fun o => hlook (wr.alloc o) (Hp.alloc hb5 o)
        obtain ⟨now, hnow⟩ : ∃ now, atV (s.vers key) rev = now := ⟨_, rfl⟩
        have HN : Hid (atV (s.vers key) rev = now) := hnow
        have HAT : Hid (∀ w' : World, (∀ x, x < wr.heap.size → w'.heap[x]? = wr.heap[x]?) → Calls Try.prog 74 #[.slice ah (s.vers key).length caph, .int .i64 rev] w' fun e w'' => e = .returned (.agg #[.int .i64 now.rev, .string now.val, .bool now.gone]) ∧ Below w'.heap.size w' w'') := fun w' hw => hnow ▸ histAt w' ah caph (s.vers key) rev (by have := hSr.good.len key; omega) ((hho.keep fun k hk => hw k (hho.lt hk)).reads) (hSr.good.asc key)
        clear hnow hSr hhd hho hF hs5 hD5 hlook hkr hkr' hS1
        rcases hgone : now.gone with _ | _
        · have hfa : Hid (fndAt s rev key = some ⟨key, now.val, now.rev⟩) := by
            show _ = _
            unfold fndAt look; rw [HN.out, hgone]; rfl
          rw [hgone] at HAT
          have hflen : (fs.map Fnd.cells).length = fs.length := List.length_map _
          have hfk : fs.length ≤ k := by rw [HFS.out]; exact Nat.le_trans (List.length_filterMap_le _ _) (by rw [List.length_take]; omega)
          have hl1 : (fs.map Fnd.cells).length + 1 ≤ maxLen := by rw [hflen]; unfold maxLen; omega
          have hl2 : ((fs.map Fnd.cells).length + 1) * 40 ≤ 140737488355328 := by rw [hflen]; omega
          have hone : ∀ u ∈ (#[Value.string key, .string now.val, .int .i64 now.rev] : Array Value).toList, u.oneCell' = true := by
            intro u hu
            simp only [List.mem_cons, List.not_mem_nil, or_false] at hu
            rcases hu with rfl | rfl | rfl <;> rfl
          have hown := HI.out.own
          clear hfk
          go_wp2_with (first | (go_at_call 74; (first | refine Calls.mono (HAT.out _ (fun x hx => rfl)) ?_ | refine Calls.mono (HAT.out _ (fun x hx => Below.heap_alloc _ _ _ hx)) ?_); rintro e w2 ⟨rfl, hb2⟩; obtain ⟨x2, rfl⟩ := Below.ext hb2; clear hb2) | (at_builtin; refine Held.out ?_))
          unfold Held
          refine wpL_new rfl _ _ 73 rfl 131 3 40 _ Try.underlying73 infoFnd rfl (by decide) (.slice fa fs.length fcap) (fs.map Fnd.cells) rfl (((hown.ext x2).alloc _).alloc _) #[.string key, .string now.val, .int .i64 now.rev] (wr.heap.size + x2.new.size + 1) rfl (Hp.new (by simp [go_sem])) rfl hone hl1 hl2 ?_
          intro a' cap' w3 ho3 hg3 _
          have HI3 : Hid (FInv w1 w3 (fs ++ [⟨key, now.val, now.rev⟩]) (.slice a' ((fs.map Fnd.cells).length + 1) cap')) := HI.out.add (by repeat (first | exact Below.refl _ _ | assumption | with_reducible refine below_drewN ?_ _ | refine Gr.ext ?_ _ | refine Gr.alloc ?_ _ | refine Gr.drew ?_ | (refine Gr.set ?_ (by first | (simp; done) | (simp; omega)) _))) ho3 hg3
          clear ho3 hg3
          go_frame
          go_wp2_with fail
          exact ⟨⟨k + 1, fs ++ [⟨key, now.val, now.rev⟩], by omega, val_int (by omega), by show _ = _; rw [htake.out, hfa.out]; rfl, by rw [List.length_append, List.length_singleton]; omega, HI3⟩, by simp [intOf]; omega⟩
        · have hfn : Hid (fndAt s rev key = none) := by
            show _ = _
            unfold fndAt look; rw [HN.out, hgone]; rfl
          rw [hgone] at HAT
          go_wp2_with (go_at_call 74; (first | refine Calls.mono (HAT.out _ (fun x hx => rfl)) ?_ | refine Calls.mono (HAT.out _ (fun x hx => Below.heap_alloc _ _ _ hx)) ?_); rintro e w2 ⟨rfl, hb2⟩; obtain ⟨x2, rfl⟩ := Below.ext hb2; clear hb2)
          exact ⟨⟨k + 1, fs, by omega, val_int (by omega), by show _ = _; rw [htake.out, hfn.out]; simp, hfm, HI.out.grow (by repeat (first | exact Below.refl _ _ | assumption | with_reducible refine below_drewN ?_ _ | refine Gr.ext ?_ _ | refine Gr.alloc ?_ _ | refine Gr.drew ?_ | (refine Gr.set ?_ (by first | (simp; done) | (simp; omega)) _)))⟩, by simp [intOf]; omega⟩
    · have hkk : k = ks.length := by omega
      subst hkk
      clear hkr
      go_wp2_with fail
      refine bodyPost_ret (v := .tuple #[.slice fa fs.length fcap, .int .i64 0]) (by simp [results, Try.results32, go_sem]) rfl ⟨ks.filterMap (fndAt s rev), .slice fa fs.length fcap, rfl, rangeIs_of HKM.out.1 HKM.out.2, ?_, fun x hx => Nat.le_trans HKB.out.size (HI.out.new x hx), HKB.out.trans (HI.out.below.mono HKB.out.size)⟩
      have e : (ks.filterMap (fndAt s rev)).take most = fs := by
        have := HFS.out
        rw [List.take_length] at this
        rw [← this, List.take_of_length_le hfm]
      rw [e]; exact HI.out.own
end Go.Proofs.Ytcbbnmodjnnbeaa
