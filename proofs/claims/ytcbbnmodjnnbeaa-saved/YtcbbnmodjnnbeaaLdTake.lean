/- Load: the versions are taken. -/
import Derived.Test.YtcbbnmodjnnbeaaLdVer
import Derived.Test.YtcbbnmodjnnbeaaLdPut
import Derived.Maps.OwnIn
set_option linter.unusedSimpArgs false
set_option linter.unusedVariables false
namespace Go.Proofs.Ytcbbnmodjnnbeaa
open Go.RowKit
open Go.ChangeShapes Go.WideShapes Go.MapKept
open Go.Maps (Keyed IsMap Tidy)

theorem intKeyed : Keyed Try.prog 3 := Maps.int_keyed Try.underlying3
def il (n : Nat) : Lit := .int .i64 n
theorem il_inj {a b : Nat} (h : il a = il b) : a = b := by injection h with _ h; omega
theorem il_key (n : Nat) : WideAt.IsKeyLit (il n) := trivial
theorem key_int (n : Nat) (h : n ≤ 100000000) : keyOf Try.prog 3 (.int .i64 n) = some (il n) := Go.Maps.keyOf_int_mk Try.underlying3 (by simp only [Lit.wf, Bool.and_eq_true, decide_eq_true_eq]; exact ⟨Int.le_trans (show IntKind.i64.min ≤ 0 by decide) (by omega), Int.le_trans (show (n : Int) ≤ 100000000 by omega) (by decide)⟩)
/-- The store, the set of revisions and the Reader, while versions are taken. -/
structure TkInv (w0 wr : World) (p b : Nat) (D0 D : DataW Value) (s : St) (bt : Nat) (T : DataW Value) (t : List Nat) (r : Nat) (l : List UInt8) (bb : Bool) : Prop where
  store : StoreAt wr p b D s
  set : wr.ownsMap Try.prog 3 unitElem bt (Maps.size T) T
  tn : Maps.size T ≤ t.length
  tk : ∀ n, Maps.has T (il n) = true ↔ n ∈ t
  rd : RdAt wr r l bb
  btf : ¬ footS p b D bt
  rf : ¬ footS p b D r
  rbt : r ≠ bt
  nd : t.Nodup
  tb : ∀ n ∈ t, 1 ≤ n ∧ n ≤ s.rev
  vt : ∀ k, ∀ v ∈ s.vers k, v.rev ∈ t
  sz : Maps.size D ≤ t.length
  new : ∀ x, footM b D x → footM b D0 x ∨ w0.heap.size ≤ x
  btn : w0.heap.size ≤ bt
  turned : w0.turned wr (fun x => footS p b D0 x ∨ x = r)
theorem TkInv.rdStep {w0 wr W : World} {p b : Nat} {D0 D : DataW Value} {s : St} {bt : Nat} {T : DataW Value} {t : List Nat} {r : Nat} {l l' : List UInt8} {bb b' : Bool} (h : TkInv w0 wr p b D0 D s bt T t r l bb) (hr : RdAt W r l' b') (hg : wr.grownBy W (some r)) : TkInv w0 W p b D0 D s bt T t r l' b' := by
  have hk : ∀ x, x < wr.heap.size → x ≠ r → W.heap[x]? = wr.heap[x]? := fun x hx hn => hg.block x hx fun e => hn (Option.some.inj e)
  have hp : p < wr.heap.size := (Array.getElem?_eq_some_iff.1 h.store.blk).1
  refine ⟨⟨(hk p hp fun e => h.rf (.inl e.symm)).trans h.store.blk, h.store.map.keep fun x hx => hk x (h.store.map.foot_lt hx) fun e => h.rf (.inr (e ▸ hx)), h.store.good, h.store.sz⟩, ownsMap_keep h.set (hk bt h.set.lt fun e => h.rbt e.symm), h.tn, h.tk, hr, h.btf, h.rf, h.rbt, h.nd, h.tb, h.vt, h.sz, h.new, h.btn, h.turned.trans (.of_grown hg) fun k _ e => .inr (Option.some.inj e).symm⟩
theorem TkInv.grow {w0 wr W : World} {p b : Nat} {D0 D : DataW Value} {s : St} {bt : Nat} {T : DataW Value} {t : List Nat} {r : Nat} {l : List UInt8} {bb : Bool} (h : TkInv w0 wr p b D0 D s bt T t r l bb) (hb : Below wr.heap.size wr W) : TkInv w0 W p b D0 D s bt T t r l bb :=
  h.rdStep (h.rd.keep (hb.block r h.rd.lt)) ⟨hb.os, hb.tape, hb.output, hb.size, fun k hk _ => hb.block k hk⟩
theorem TkInv.good1 {w0 wr : World} {p b : Nat} {D0 D : DataW Value} {s : St} {bt : Nat} {T : DataW Value} {t : List Nat} {r : Nat} {l : List UInt8} {bb : Bool} (h : TkInv w0 wr p b D0 D s bt T t r l bb) {last : ByteArray} {x : ByteArray × Ver} (ok : OkV s t last x) : Good (s.put1 x) ∧ t.length + 1 ≤ s.rev := by
  have hg := h.store.good
  have hm := (mayV_iff _ _).1 ok.2.2.2
  have hall := (upToN_all _ _).1 ok.2.2.1
  refine ⟨⟨hg.rev, hg.floor, fun k => ?_, fun k v hv => ?_, hg.ss⟩, ?_⟩
  · show Asc (if k = x.1 then s.vers x.1 ++ [x.2] else s.vers k)
    by_cases e : k = x.1
    · rw [if_pos e]
      refine List.pairwise_append.2 ⟨hg.asc x.1, List.pairwise_singleton _ _, fun a ha c hc => ?_⟩
      rw [List.mem_singleton.1 hc]
      have h1 := hall a ha
      have h2 : a.rev ≠ x.2.rev := fun e => ok.1 (e ▸ h.vt x.1 a ha)
      omega
    · rw [if_neg e]; exact hg.asc k
  · have hv2 : v ∈ (if k = x.1 then s.vers x.1 ++ [x.2] else s.vers k) := hv
    by_cases e : k = x.1
    · rw [if_pos e] at hv2
      rcases List.mem_append.1 hv2 with h1 | h1
      · exact hg.bd x.1 v h1
      · rw [List.mem_singleton.1 h1]; exact hm.2.2.2
    · rw [if_neg e] at hv2; exact hg.bd k v hv2
  · have := pigeon s.rev (x.2.rev :: t) (List.nodup_cons.2 ⟨ok.1, h.nd⟩) (fun n hn => by
      rcases List.mem_cons.1 hn with rfl | hn
      · exact hm.2.2.2
      · exact h.tb n hn)
    simpa using this
theorem TkInv.put {w0 W w7 w8 : World} {p b : Nat} {D0 D D' : DataW Value} {s : St} {bt : Nat} {T : DataW Value} {t : List Nat} {r : Nat} {l : List UInt8} {bb : Bool} (h : TkInv w0 W p b D0 D s bt T t r l bb) {last : ByteArray} {x : ByteArray × Ver} (ok : OkV s t last x)
    (h7 : StoreAt w7 p b D' (s.put1 x)) (hf : ∀ y, footM b D' y → footM b D y ∨ W.heap.size ≤ y) (ht : W.turned w7 (footS p b D)) (hsz : Maps.size D' ≤ Maps.size D + 1)
    (hm8 : w8.ownsMap Try.prog 3 unitElem bt (Maps.size T + 1) (T.put (il x.2.rev) (.agg []))) (hg8 : w7.grownBy w8 (some bt)) : TkInv w0 w8 p b D0 D' (s.put1 x) bt (T.put (il x.2.rev) (.agg [])) (x.2.rev :: t) r l bb := by
  have hm := (mayV_iff _ _).1 ok.2.2.2
  have kbt := Chg.keep hf ht h.set.lt h.btf
  have kr := Chg.keep hf ht h.rd.lt h.rf
  have hs := ht.size
  have hk : ∀ y, y < w7.heap.size → y ≠ bt → w8.heap[y]? = w7.heap[y]? := fun y hy hn => hg8.block y hy fun e => hn (Option.some.inj e)
  have hp7 : p < w7.heap.size := (Array.getElem?_eq_some_iff.1 h7.blk).1
  have hr7 : r < w7.heap.size := Nat.lt_of_lt_of_le h.rd.lt hs
  refine ⟨⟨(hk p hp7 fun e => kbt.2 (.inl e.symm)).trans h7.blk, h7.map.keep fun y hy => hk y (h7.map.foot_lt hy) fun e => kbt.2 (.inr (e ▸ hy)), h7.good, h7.sz⟩, ownsMap_tight hm8, ?_, fun n => ?_, ?_, kbt.2, kr.2, h.rbt, List.nodup_cons.2 ⟨ok.1, h.nd⟩, fun n hn => ?_, fun k v hv => ?_, ?_, fun y hy => ?_, h.btn, ?_⟩
  · rw [Maps.size_put (h.set.tidy intKeyed)]
    have := h.tn
    rw [List.length_cons]
    split <;> omega
  · by_cases e : n = x.2.rev
    · subst e
      rw [Maps.has_put_same h.set.isMap (il_key _)]
      simp
    · rw [Maps.has_put_other (fun e' => e (il_inj e')), h.tk]
      simp [e]
  · exact h.rd.keep ((hk r hr7 h.rbt).trans kr.1)
  · rcases List.mem_cons.1 hn with rfl | hn
    · exact hm.2.2.2
    · exact h.tb n hn
  · have hv2 : v ∈ (if k = x.1 then s.vers x.1 ++ [x.2] else s.vers k) := hv
    by_cases e : k = x.1
    · rw [if_pos e] at hv2
      rcases List.mem_append.1 hv2 with h1 | h1
      · exact List.mem_cons_of_mem _ (h.vt x.1 v h1)
      · rw [List.mem_singleton.1 h1]; exact List.mem_cons_self
    · rw [if_neg e] at hv2; exact List.mem_cons_of_mem _ (h.vt k v hv2)
  · have := h.sz
    rw [List.length_cons]; omega
  · rcases hf y hy with h1 | h1
    · exact h.new y h1
    · have := h.turned.size
      exact .inr (by omega)
  · have h1 : w0.turned w7 (fun y => footS p b D0 y ∨ y = r) := h.turned.trans ht fun k hk hx => by
      rcases hx with rfl | hx
      · exact .inl (.inl rfl)
      · rcases h.new k hx with h2 | h2
        · exact .inl (.inr h2)
        · omega
    exact h1.trans (.of_grown hg8) fun k hk hx => by
      have := h.btn
      injection hx with hx; omega
end Go.Proofs.Ytcbbnmodjnnbeaa
