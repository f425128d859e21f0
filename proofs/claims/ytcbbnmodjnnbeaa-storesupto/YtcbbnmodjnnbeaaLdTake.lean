/- Load: a version's parts, and whether it may be. -/
import Derived.Test.YtcbbnmodjnnbeaaRdRec2
import Derived.Test.YtcbbnmodjnnbeaaLoadP
import Derived.Test.YtcbbnmodjnnbeaaLists2
import Derived.Test.YtcbbnmodjnnbeaaPreds
import Derived.Maps.OwnIn
set_option linter.unusedSimpArgs false
set_option linter.unusedVariables false
namespace Go.Proofs.Ytcbbnmodjnnbeaa
open Go.RowKit

set_option maxHeartbeats 400000 in
theorem readerFlag (p : Nat) (l : List UInt8) (b : Bool) (w : World) (h : RdAt w p l b) (hl : l.length ≤ maxLen) :
    Calls Try.prog 127 #[.pointer (some ⟨p, 0, none⟩)] w fun e w' => e = .returned (.bool (flagR l b).1) ∧ RdAt w' p (flagR l b).2.1 (flagR l b).2.2 ∧ w.grownBy w' (some p) := by
  have hlt := byteL_lt l b
  by_cases hn : 1 < (byteL l b).1
  · have HT : Hid (flagR l b = (false, [], true)) := by show _ = _; unfold flagR; rw [if_pos hn]
    go_enter Try.func127, Try.ntmps127
    go_wp2_with fail
    refine (readerByte p l b w h hl).mono ?_
    rintro e w1 ⟨rfl, hr, hg⟩
    generalize byteL l b = t at *
    have hn2 : (1 : Int) < (t.1 : Int) := by omega
    go_wp2_with fail
    refine (readerStop p _ _ _ hr).mono ?_
    rintro e w2 ⟨rfl, hr2, hg2⟩
    go_wp2_with fail
    go_ret
    rw [HT.out]
    exact ⟨ret_bool (by simp; omega), hr2, grownBy_trans hg hg2⟩
  · have HT : Hid (flagR l b = ((byteL l b).1 == 1, (byteL l b).2)) := by show _ = _; unfold flagR; rw [if_neg hn]
    go_enter Try.func127, Try.ntmps127
    go_wp2_with fail
    refine (readerByte p l b w h hl).mono ?_
    rintro e w1 ⟨rfl, hr, hg⟩
    generalize byteL l b = t at *
    have hn2 : ¬ (1 : Int) < (t.1 : Int) := by omega
    go_wp2_with fail
    go_ret
    rw [HT.out]
    exact ⟨ret_bool (by rw [Bool.eq_iff_iff]; simp; omega), hr, hg⟩
theorem flagN (p : Nat) (l : List UInt8) (b : Bool) (w : World) (h : RdAt w p l b) (hl : l.length ≤ maxLen) :
    Calls Try.prog 127 #[.pointer (some ⟨p, 0, none⟩)] w fun e w' => ∃ t, Hid (t = flagR l b) ∧ Hid (t.2.1.length ≤ maxLen) ∧ True ∧ e = .returned (.bool t.1) ∧ ∃ x, w' = (w.putRd p t.2.1 t.2.2).ext x :=
  (readerFlag p l b w h hl).mono fun e w' ⟨he, hr, hg⟩ => ⟨_, rfl, (by
    show (flagR l b).2.1.length ≤ maxLen
    unfold flagR
    split
    · exact Nat.zero_le _
    · exact Nat.le_trans (byteL_len l b) hl), trivial, he, rd_form h hr hg⟩
theorem textN' (p : Nat) (l : List UInt8) (b : Bool) (w : World) (h : RdAt w p l b) (hl : l.length ≤ maxLen) :
    Calls Try.prog 148 #[.pointer (some ⟨p, 0, none⟩)] w fun e w' => ∃ t, Hid (t = textL l b) ∧ Hid (t.2.1.length ≤ maxLen) ∧ Hid (t.1.length ≤ 255) ∧ e = .returned (.string (B t.1)) ∧ ∃ x, w' = (w.putRd p t.2.1 t.2.2).ext x :=
  (rdText p l b w h hl).mono fun e w' ⟨he, hx⟩ => ⟨_, rfl, takeL_len' _ _ _ (Nat.le_trans (byteL_len l b) hl), (by
    show (textL l b).1.length ≤ 255
    have h1 := byteL_lt l b
    have h2 := byteL_len l b
    unfold textL takeL
    split
    · exact Nat.zero_le _
    · rw [List.length_take]; omega), he, hx⟩
set_option maxRecDepth 100000 in
set_option maxHeartbeats 1000000 in
theorem takeVersion (p : Nat) (l : List UInt8) (b : Bool) (w : World) (h : RdAt w p l b) (hl : l.length ≤ maxLen) :
    Calls Try.prog 125 #[.pointer (some ⟨p, 0, none⟩)] w fun e w' => ∃ (x : ByteArray × Ver) (t : List UInt8 × Bool), Hid ((x, t) = verR l b) ∧ Hid (t.1.length ≤ maxLen) ∧ e = .returned (.tuple #[.string x.1, .agg #[.int .i64 x.2.rev, .string x.2.val, .bool x.2.gone]]) ∧ ∃ y, w' = (w.putRd p t.1 t.2).ext y := by
  have hl0 : Hid (l.length ≤ maxLen) := hl
  clear hl
  have hp := h.lt
  have hp0 : ¬ w.heap.size = p := by omega
  have hp1 : ¬ w.heap.size + 1 = p := by omega
  go_enter Try.func125, Try.ntmps125
  go_wp2_with fail
  refine (textN' p l b _ (by repeat (first | with_reducible exact h | with_reducible exact RdAt.ok h | with_reducible refine RdAt.ext ?_ _ | with_reducible refine RdOk.at ?_ _ _ | with_reducible refine RdAt.alloc ?_ _ | with_reducible refine RdOk.ext ?_ _ | with_reducible refine RdOk.put ?_ _ _ | with_reducible refine RdOk.alloc ?_ _)) (hl0.out)).mono ?_
  rintro e w1 ⟨t1, H1, hl1, hv1, rfl, x1, rfl⟩
  go_wp2_with fail
  refine (stringsClone _ _ (by rw [B_size]; have := hv1.out; omega)).mono ?_
  rintro e w2 ⟨rfl, hb2⟩
  obtain ⟨x2, rfl⟩ := Below.ext hb2
  clear hb2
  go_wp2_with fail
  refine (numN p t1.2.1 t1.2.2 _ (by repeat (first | with_reducible exact h | with_reducible exact RdAt.ok h | with_reducible refine RdAt.ext ?_ _ | with_reducible refine RdOk.at ?_ _ _ | with_reducible refine RdAt.alloc ?_ _ | with_reducible refine RdOk.ext ?_ _ | with_reducible refine RdOk.put ?_ _ _ | with_reducible refine RdOk.alloc ?_ _)) (hl1.out)).mono ?_
  rintro e w3 ⟨t3, H3, hl3, hv3, rfl, x3, rfl⟩
  go_wp2_with fail
  refine (flagN p t3.2.1 t3.2.2 _ (by repeat (first | with_reducible exact h | with_reducible exact RdAt.ok h | with_reducible refine RdAt.ext ?_ _ | with_reducible refine RdOk.at ?_ _ _ | with_reducible refine RdAt.alloc ?_ _ | with_reducible refine RdOk.ext ?_ _ | with_reducible refine RdOk.put ?_ _ _ | with_reducible refine RdOk.alloc ?_ _)) (hl3.out)).mono ?_
  rintro e w4 ⟨t4, H4, hl4, hv4, rfl, x4, rfl⟩
  go_wp2_with fail
  refine (textN' p t4.2.1 t4.2.2 _ (by repeat (first | with_reducible exact h | with_reducible exact RdAt.ok h | with_reducible refine RdAt.ext ?_ _ | with_reducible refine RdOk.at ?_ _ _ | with_reducible refine RdAt.alloc ?_ _ | with_reducible refine RdOk.ext ?_ _ | with_reducible refine RdOk.put ?_ _ _ | with_reducible refine RdOk.alloc ?_ _)) (hl4.out)).mono ?_
  rintro e w5 ⟨t5, H5, hl5, hv5, rfl, x5, rfl⟩
  go_wp2_with fail
  refine (stringsClone _ _ (by rw [B_size]; have := hv5.out; omega)).mono ?_
  rintro e w6 ⟨rfl, hb6⟩
  obtain ⟨x6, rfl⟩ := Below.ext hb6
  clear hb6
  go_wp2_with fail
  go_region_with fail
  go_wp2_with fail
  refine bodyPost_ret (v := .tuple #[.string (B t1.1), .agg #[.int .i64 t3.1, .string (B t5.1), .bool t4.1]]) (by simp [results, Try.results125, go_sem, hp, hp0, hp1]) rfl ⟨(B t1.1, ⟨t3.1, B t5.1, t4.1⟩), t5.2, ?_, hl5, rfl, ?_⟩
  · go_light
    have e1 := H1.out
    have e3 := H3.out
    have e4 := H4.out
    have e5 := H5.out
    clear H1 H3 H4 H5
    subst e5 e4 e3 e1
    rfl
  · exact rd_form h (by repeat (first | with_reducible exact h | with_reducible exact RdAt.ok h | with_reducible refine RdAt.ext ?_ _ | with_reducible refine RdOk.at ?_ _ _ | with_reducible refine RdAt.alloc ?_ _ | with_reducible refine RdOk.ext ?_ _ | with_reducible refine RdOk.put ?_ _ _ | with_reducible refine RdOk.alloc ?_ _)) (by repeat (first | with_reducible exact grownBy_refl _ _ | with_reducible refine gb_ext ?_ _ | with_reducible refine gb_put ?_ _ _ | with_reducible refine gb_alloc ?_ _))
end Go.Proofs.Ytcbbnmodjnnbeaa
/- Load: the map takes a version. -/
set_option linter.unusedSimpArgs false
set_option linter.unusedVariables false
namespace Go.Proofs.Ytcbbnmodjnnbeaa
open Go.RowKit
open Go.Maps (Keyed IsMap Tidy)

/-- Behind the append: the map takes the new header. -/
theorem putEnd {w5 W w6 : World} {p b : Nat} {D : DataW Value} {s : St} {x : ByteArray × Ver} {ah a1 : Option Addr} {caph cap1 : Nat} (H : StoreAt w5 p b D s) (hG : Good (s.put1 x)) (hsz : Maps.size D + 1 ≤ s.rev) (hk : x.1.size ≤ maxLen) (hW : Below w5.heap.size w5 W)
    (hhd : hdAt D x.1 (.slice ah (s.vers x.1).length caph)) (ho6 : w6.ownL 158 3 (.slice a1 ((s.vers x.1).length + 1) cap1) ((s.vers x.1).map Ver.cells ++ [x.2.cells])) (hg6 : Grew W w6 (.slice ah (s.vers x.1).length caph) (.slice a1 ((s.vers x.1).length + 1) cap1)) :
    ∃ w7 D', (Instr.mapUpdate 136 (.map (some b)) (.string x.1) (.slice a1 ((s.vers x.1).length + 1) cap1)).run Try.prog w6 = .ok () w7 ∧ StoreAt w7 p b D' (s.put1 x) ∧ (∀ y, footM b D' y → footM b D y ∨ w5.heap.size ≤ y) ∧ w5.turned w7 (footS p b D) ∧ Maps.size D' ≤ Maps.size D + 1 ∧ (∀ q, q < w5.heap.size → ¬ footM b D q → w6.heap[q]? = w5.heap[q]? ∧ w7.heap[q]? = w5.heap[q]?) := by
  have hpb := H.pb
  have hp5 : p < w5.heap.size := (Array.getElem?_eq_some_iff.1 H.blk).1
  have hb5 := H.map.map.lt
  have hWs := hW.size
  have hoff : ∀ y, (Value.slice ah (s.vers x.1).length caph).ownBlock = some y → y ≠ b ∧ y ≠ p ∧ y < w5.heap.size := fun y hy => ⟨(H.map.off x.1 _ y hhd hy).1, (H.map.off x.1 _ y hhd hy).2, (H.map.own hhd).lt hy⟩
  have e6p : w6.heap[p]? = w5.heap[p]? := (hg6.keep (by omega) fun h => (hoff p h).2.1 rfl).trans (hW.block p hp5)
  have e6b : w6.heap[b]? = w5.heap[b]? := (hg6.keep (by omega) fun h => (hoff b h).1 rfl).trans (hW.block b hb5)
  have hm6 : w6.ownsMap Try.prog 9 rawElem b (Maps.size D) D := ownsMap_keep H.map.map e6b
  have hs6 := hg6.g.size
  have hrev := H.good.rev
  obtain ⟨w7, hrun, hm7, hg7⟩ := hm6.update strKeyed Try.underlying136 (by unfold maxLen; omega) (key_of x.1 hk) (val := .slice a1 ((s.vers x.1).length + 1) cap1) (d := .held (.slice a1 ((s.vers x.1).length + 1) cap1)) (ps := []) rfl
  have e7p : w7.heap[p]? = w6.heap[p]? := hg7.block p (by omega) fun h => hpb (by injection h)
  have hHM : HMap W p b D s.vers := H.map.keep fun y hy => hW.block y (H.map.foot_lt hy)
  have hvs : (s.vers x.1 ++ [x.2]).map Ver.cells = (s.vers x.1).map Ver.cells ++ [x.2.cells] := by rw [List.map_append]; rfl
  have hput := hHM.put x.1 _ _ (s.vers x.1 ++ [x.2]) hhd (by simp) (by omega) hg6 (by rw [hvs]; exact ho6) hm7 hg7
  obtain ⟨hM7, hf7⟩ := hput
  have hsz7 : Maps.size (D.put (kl x.1) (.held (.slice a1 ((s.vers x.1).length + 1) cap1))) ≤ Maps.size D + 1 := by
    rw [Maps.size_put (H.map.map.tidy strKeyed)]
    split <;> omega
  refine ⟨w7, _, hrun, ⟨(e7p.trans e6p).trans H.blk, hM7, hG, Nat.le_trans hsz7 hsz⟩, fun y hy => ?_, ?_, hsz7, fun q hq hqf => ?_⟩
  · rcases hf7 y hy with h1 | h1
    · exact .inl h1
    · exact .inr (by omega)
  · refine ((World.turned.of_below hW (footS p b D)).grew hg6 fun k hk h => .inr (.inr ⟨x.1, _, hhd, h⟩)).trans (.of_grown hg7) fun k hk h => ?_
    injection h with h
    exact .inr (.inl h.symm)
  · have h6 : w6.heap[q]? = w5.heap[q]? := (hg6.keep (by omega) fun h => hqf (.inr ⟨x.1, _, hhd, h⟩)).trans (hW.block q hq)
    exact ⟨h6, (hg7.block q (by omega) fun h => hqf (.inl (Option.some.inj h))).trans h6⟩
theorem putS_keep {w w' : World} {p b q r : Nat} {val : ByteArray} {gone : Bool} (h : w.cell? ⟨p, 2, none⟩ = some (.map (some b)) ∧ w.cell? ⟨q, 0, none⟩ = some (.int .i64 (r : Int)) ∧ w.cell? ⟨q, 1, none⟩ = some (.string val) ∧ w.cell? ⟨q, 2, none⟩ = some (.bool gone)) (hp : w'.heap[p]? = w.heap[p]?) (hq : w'.heap[q]? = w.heap[q]?) :
    w'.cell? ⟨p, 2, none⟩ = some (.map (some b)) ∧ w'.cell? ⟨q, 0, none⟩ = some (.int .i64 (r : Int)) ∧ w'.cell? ⟨q, 1, none⟩ = some (.string val) ∧ w'.cell? ⟨q, 2, none⟩ = some (.bool gone) :=
  ⟨(World.cell?_of_block hp).trans h.1, (World.cell?_of_block hq).trans h.2.1, (World.cell?_of_block hq).trans h.2.2.1, (World.cell?_of_block hq).trans h.2.2.2⟩
end Go.Proofs.Ytcbbnmodjnnbeaa
/- Load: the versions are taken. -/
set_option linter.unusedSimpArgs false
set_option linter.unusedVariables false
namespace Go.Proofs.Ytcbbnmodjnnbeaa
open Go.RowKit
open Go.ChangeShapes Go.WideShapes Go.MapKept
open Go.Maps (Keyed IsMap Tidy)

theorem intKeyed : Keyed Try.prog 3 := Maps.int_keyed Try.underlying3
def il (n : Nat) : Lit := .int .i64 n
theorem il_inj {a b : Nat} (h : il a = il b) : a = b := by injection h with _ h; omega
theorem il_key (n : Nat) : WideAt.IsKeyLit (il n) := trivial
theorem key_int (n : Nat) (h : n ≤ 100000000) : keyOf Try.prog 3 (.int .i64 n) = some (il n) := Go.Maps.keyOf_int_mk Try.underlying3 (by simp only [Lit.wf, Bool.and_eq_true, decide_eq_true_eq]; exact ⟨Int.le_trans (show IntKind.i64.min ≤ 0 by decide) (by omega), Int.le_trans (show (n : Int) ≤ 100000000 by omega) (by decide)⟩)
/-- The store, the set of revisions and the Reader, while versions are taken. -/
structure TkInv (w0 wr : World) (p b : Nat) (D0 D : DataW Value) (s : St) (bt : Nat) (T : DataW Value) (t : List Nat) (r : Nat) (l : List UInt8) (bb : Bool) : Prop where
  store : StoreAt wr p b D s
  set : wr.ownsMap Try.prog 3 unitElem bt (Maps.size T) T
  tn : Maps.size T ≤ t.length
  tk : ∀ n, Maps.has T (il n) = true ↔ n ∈ t
  rd : RdAt wr r l bb
  btf : ¬ footS p b D bt
  rf : ¬ footS p b D r
  rbt : r ≠ bt
  nd : t.Nodup
  tb : ∀ n ∈ t, 1 ≤ n ∧ n ≤ s.rev
  vt : ∀ k, ∀ v ∈ s.vers k, v.rev ∈ t
  sz : Maps.size D ≤ t.length
  new : ∀ x, footM b D x → footM b D0 x ∨ w0.heap.size ≤ x
  btn : w0.heap.size ≤ bt
  turned : w0.turned wr (fun x => footS p b D0 x ∨ x = r)
theorem TkInv.rdStep {w0 wr W : World} {p b : Nat} {D0 D : DataW Value} {s : St} {bt : Nat} {T : DataW Value} {t : List Nat} {r : Nat} {l l' : List UInt8} {bb b' : Bool} (h : TkInv w0 wr p b D0 D s bt T t r l bb) (hr : RdAt W r l' b') (hg : wr.grownBy W (some r)) : TkInv w0 W p b D0 D s bt T t r l' b' := by
  have hk : ∀ x, x < wr.heap.size → x ≠ r → W.heap[x]? = wr.heap[x]? := fun x hx hn => hg.block x hx fun e => hn (Option.some.inj e)
  have hp : p < wr.heap.size := (Array.getElem?_eq_some_iff.1 h.store.blk).1
  refine ⟨⟨(hk p hp fun e => h.rf (.inl e.symm)).trans h.store.blk, h.store.map.keep fun x hx => hk x (h.store.map.foot_lt hx) fun e => h.rf (.inr (e ▸ hx)), h.store.good, h.store.sz⟩, ownsMap_keep h.set (hk bt h.set.lt fun e => h.rbt e.symm), h.tn, h.tk, hr, h.btf, h.rf, h.rbt, h.nd, h.tb, h.vt, h.sz, h.new, h.btn, h.turned.trans (.of_grown hg) fun k _ e => .inr (Option.some.inj e).symm⟩
theorem TkInv.grow {w0 wr W : World} {p b : Nat} {D0 D : DataW Value} {s : St} {bt : Nat} {T : DataW Value} {t : List Nat} {r : Nat} {l : List UInt8} {bb : Bool} (h : TkInv w0 wr p b D0 D s bt T t r l bb) (hb : Below wr.heap.size wr W) : TkInv w0 W p b D0 D s bt T t r l bb :=
  h.rdStep (h.rd.keep (hb.block r h.rd.lt)) ⟨hb.os, hb.tape, hb.output, hb.size, fun k hk _ => hb.block k hk⟩
theorem TkInv.good1 {w0 wr : World} {p b : Nat} {D0 D : DataW Value} {s : St} {bt : Nat} {T : DataW Value} {t : List Nat} {r : Nat} {l : List UInt8} {bb : Bool} (h : TkInv w0 wr p b D0 D s bt T t r l bb) {last : ByteArray} {x : ByteArray × Ver} (ok : OkV s t last x) : Good (s.put1 x) ∧ t.length + 1 ≤ s.rev := by
  have hg := h.store.good
  have hm := (mayV_iff _ _).1 ok.2.2.2
  have hall := (upToN_all _ _).1 ok.2.2.1
  refine ⟨⟨hg.rev, hg.floor, fun k => ?_, fun k v hv => ?_, hg.ss⟩, ?_⟩
  · show Asc (if k = x.1 then s.vers x.1 ++ [x.2] else s.vers k)
    by_cases e : k = x.1
    · rw [if_pos e]
      refine List.pairwise_append.2 ⟨hg.asc x.1, List.pairwise_singleton _ _, fun a ha c hc => ?_⟩
      rw [List.mem_singleton.1 hc]
      have h1 := hall a ha
      have h2 : a.rev ≠ x.2.rev := fun e => ok.1 (e ▸ h.vt x.1 a ha)
      omega
    · rw [if_neg e]; exact hg.asc k
  · have hv2 : v ∈ (if k = x.1 then s.vers x.1 ++ [x.2] else s.vers k) := hv
    by_cases e : k = x.1
    · rw [if_pos e] at hv2
      rcases List.mem_append.1 hv2 with h1 | h1
      · exact hg.bd x.1 v h1
      · rw [List.mem_singleton.1 h1]; exact hm.2.2.2
    · rw [if_neg e] at hv2; exact hg.bd k v hv2
  · have := pigeon s.rev (x.2.rev :: t) (List.nodup_cons.2 ⟨ok.1, h.nd⟩) (fun n hn => by
      rcases List.mem_cons.1 hn with rfl | hn
      · exact hm.2.2.2
      · exact h.tb n hn)
    simpa using this
theorem TkInv.put {w0 W w7 w8 : World} {p b : Nat} {D0 D D' : DataW Value} {s : St} {bt : Nat} {T : DataW Value} {t : List Nat} {r : Nat} {l : List UInt8} {bb : Bool} (h : TkInv w0 W p b D0 D s bt T t r l bb) {last : ByteArray} {x : ByteArray × Ver} (ok : OkV s t last x)
    (h7 : StoreAt w7 p b D' (s.put1 x)) (hf : ∀ y, footM b D' y → footM b D y ∨ W.heap.size ≤ y) (ht : W.turned w7 (footS p b D)) (hsz : Maps.size D' ≤ Maps.size D + 1)
    (hm8 : w8.ownsMap Try.prog 3 unitElem bt (Maps.size T + 1) (T.put (il x.2.rev) (.agg []))) (hg8 : w7.grownBy w8 (some bt)) : TkInv w0 w8 p b D0 D' (s.put1 x) bt (T.put (il x.2.rev) (.agg [])) (x.2.rev :: t) r l bb := by
  have hm := (mayV_iff _ _).1 ok.2.2.2
  have kbt := Chg.keep hf ht h.set.lt h.btf
  have kr := Chg.keep hf ht h.rd.lt h.rf
  have hs := ht.size
  have hk : ∀ y, y < w7.heap.size → y ≠ bt → w8.heap[y]? = w7.heap[y]? := fun y hy hn => hg8.block y hy fun e => hn (Option.some.inj e)
  have hp7 : p < w7.heap.size := (Array.getElem?_eq_some_iff.1 h7.blk).1
  have hr7 : r < w7.heap.size := Nat.lt_of_lt_of_le h.rd.lt hs
  refine ⟨⟨(hk p hp7 fun e => kbt.2 (.inl e.symm)).trans h7.blk, h7.map.keep fun y hy => hk y (h7.map.foot_lt hy) fun e => kbt.2 (.inr (e ▸ hy)), h7.good, h7.sz⟩, ownsMap_tight hm8, ?_, fun n => ?_, ?_, kbt.2, kr.2, h.rbt, List.nodup_cons.2 ⟨ok.1, h.nd⟩, fun n hn => ?_, fun k v hv => ?_, ?_, fun y hy => ?_, h.btn, ?_⟩
  · rw [Maps.size_put (h.set.tidy intKeyed)]
    have := h.tn
    rw [List.length_cons]
    split <;> omega
  · by_cases e : n = x.2.rev
    · subst e
      rw [Maps.has_put_same h.set.isMap (il_key _)]
      simp
    · rw [Maps.has_put_other (fun e' => e (il_inj e')), h.tk]
      simp [e]
  · exact h.rd.keep ((hk r hr7 h.rbt).trans kr.1)
  · rcases List.mem_cons.1 hn with rfl | hn
    · exact hm.2.2.2
    · exact h.tb n hn
  · have hv2 : v ∈ (if k = x.1 then s.vers x.1 ++ [x.2] else s.vers k) := hv
    by_cases e : k = x.1
    · rw [if_pos e] at hv2
      rcases List.mem_append.1 hv2 with h1 | h1
      · exact List.mem_cons_of_mem _ (h.vt x.1 v h1)
      · rw [List.mem_singleton.1 h1]; exact List.mem_cons_self
    · rw [if_neg e] at hv2; exact List.mem_cons_of_mem _ (h.vt k v hv2)
  · have := h.sz
    rw [List.length_cons]; omega
  · rcases hf y hy with h1 | h1
    · exact h.new y h1
    · have := h.turned.size
      exact .inr (by omega)
  · have h1 : w0.turned w7 (fun y => footS p b D0 y ∨ y = r) := h.turned.trans ht fun k hk hx => by
      rcases hx with rfl | hx
      · exact .inl (.inl rfl)
      · rcases h.new k hx with h2 | h2
        · exact .inl (.inr h2)
        · omega
    exact h1.trans (.of_grown hg8) fun k hk hx => by
      have := h.btn
      injection hx with hx; omega
end Go.Proofs.Ytcbbnmodjnnbeaa
