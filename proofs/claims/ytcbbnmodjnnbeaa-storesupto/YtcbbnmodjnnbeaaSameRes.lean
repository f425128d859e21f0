/- The walk of the law's holds: the document's example of a store. -/
import Derived.Test.YtcbbnmodjnnbeaaTab
import Derived.Deep.DeepMust
import Derived.Test.YtcbbnmodjnnbeaaNewW
import Derived.Test.YtcbbnmodjnnbeaaRaise
import Derived.BigQuiet
set_option linter.unusedSimpArgs false
set_option linter.unusedVariables false
namespace Go.Proofs.Ytcbbnmodjnnbeaa
open Go.RowKit

theorem holdsEnd {w W0 W w3 : World} {p b : Nat} {D D3 : DataW Value} {s : St} (hS : StoreAt W0 p b D s) (hF : ∀ x, footS p b D x → w.heap.size ≤ x) (h0 : Below w.heap.size w W0) (hW : Below W0.heap.size W0 W) (hf : ∀ x, footM b D3 x → footM b D x ∨ W.heap.size ≤ x) (ht : W.turned w3 (footS p b D)) : Below w.heap.size w w3 ∧ ∀ x, footS p b D3 x → w.heap.size ≤ x := by
  have h1 := h0.size
  have h2 := hW.size
  refine ⟨(h0.trans (hW.mono h1)).trans ⟨ht.os, ht.tape, ht.output, ht.size, fun k hk => ht.block k (by omega) fun hk' => by have := hF k hk'; omega⟩, fun x hx => ?_⟩
  rcases hx with rfl | hx
  · exact hF x (.inl rfl)
  · rcases hf x hx with h3 | h3
    · exact hF x (.inr h3)
    · omega
set_option maxRecDepth 100000 in
set_option maxHeartbeats 4000000 in
theorem lawHolds (w : World) : Calls Try.prog 28 #[] w fun e w' => ∃ p b D, e = .returned (.pointer (some ⟨p, 0, none⟩)) ∧ StoreAt w' p b D st4 ∧ (∀ x, footS p b D x → w.heap.size ≤ x) ∧ Below w.heap.size w w' := by
  go_enter Try.func28, Try.ntmps28
  go_wp2_with (go_at_call 25; go_must (refine (storeNew _).mono ?_; rintro e w1 ⟨p, b, D, rfl, hS, hF, hB⟩; have HS1 : Hid (StoreAt w1 p b D St.empty) := hS; have HF1 : Hid (∀ x, footS p b D x → w.heap.size ≤ x) := hF; obtain ⟨y1, hy1⟩ := Below.ext hB; subst hy1; clear hB hS hF))
  go_wp2_with (go_at_call 31; go_must (refine (holdsDo _ p b D (HS1.out.grown (by repeat (first | exact Below.refl _ _ | assumption | with_reducible refine below_drewN ?_ _ | refine Gr.ext ?_ _ | refine Gr.alloc ?_ _ | refine Gr.drew ?_ | (refine Gr.set ?_ (by first | (simp; done) | (simp; omega)) _)))) _ (fun hf => by have := HS1.out.foot_lt hf; simp [World.ext_size] at this) (Hp.new (by simp [World.ext_size]))).mono ?_; rintro e w3 ⟨g, D3, rfl, hg3, l3a, l3b, hg3', hS3, hf3, ht3⟩; have HB3 : Hid (Below w.heap.size w w3 ∧ ∀ x, footS p b D3 x → w.heap.size ≤ x) := holdsEnd HS1.out HF1.out (by repeat (first | exact Below.refl _ _ | assumption | with_reducible refine below_drewN ?_ _ | refine Gr.ext ?_ _ | refine Gr.alloc ?_ _ | refine Gr.drew ?_ | (refine Gr.set ?_ (by first | (simp; done) | (simp; omega)) _))) (by repeat (first | exact Below.refl _ _ | assumption | with_reducible refine below_drewN ?_ _ | refine Gr.ext ?_ _ | refine Gr.alloc ?_ _ | refine Gr.drew ?_ | (refine Gr.set ?_ (by first | (simp; done) | (simp; omega)) _))) hf3 ht3; have HS3 : Hid (StoreAt w3 p b D3 st4) := hS3; clear hS3 hf3 ht3 hg3'))
  refine (holdsRange2 _ p b D3 HS3.out).mono ?_
  rintro e w4 ⟨a4, c4, rfl, hr4, hb4⟩
  have HR4 : Hid (w4.reads 3 (.slice a4 2 c4) ([(⟨xA, x1, 1⟩ : Fnd), ⟨xB, x2, 2⟩].map Fnd.cells)) := hr4
  obtain ⟨y4, hy4⟩ := Below.ext hb4
  subst hy4
  clear hr4 hb4
  go_wp2_with fail
  refine (holdsRange4 _ p b D3 (HS3.out.grown (by repeat (first | exact Below.refl _ _ | assumption | with_reducible refine below_drewN ?_ _ | refine Gr.ext ?_ _ | refine Gr.alloc ?_ _ | refine Gr.drew ?_ | (refine Gr.set ?_ (by first | (simp; done) | (simp; omega)) _))))).mono ?_
  rintro e w5 ⟨a5, c5, rfl, hr5, hb5⟩
  have HR5 : Hid (w5.reads 3 (.slice a5 1 c5) ([(⟨xA, x3, 3⟩ : Fnd)].map Fnd.cells)) := hr5
  obtain ⟨y5, hy5⟩ := Below.ext hb5
  subst hy5
  clear hr5 hb5
  go_wp2_with fail
  refine (holdsRevs _ p b D3 (HS3.out.grown (by repeat (first | exact Below.refl _ _ | assumption | with_reducible refine below_drewN ?_ _ | refine Gr.ext ?_ _ | refine Gr.alloc ?_ _ | refine Gr.drew ?_ | (refine Gr.set ?_ (by first | (simp; done) | (simp; omega)) _))))).mono ?_
  rintro e w6 ⟨rfl, hb6⟩
  obtain ⟨y6, hy6⟩ := Below.ext hb6
  subst hy6
  clear hb6
  go_wp2_with fail
  refine (holdsSame2 _ a4 c4 _ (readsGrown HR4.out (by repeat (first | exact Below.refl _ _ | assumption | with_reducible refine below_drewN ?_ _ | refine Gr.ext ?_ _ | refine Gr.alloc ?_ _ | refine Gr.drew ?_ | (refine Gr.set ?_ (by first | (simp; done) | (simp; omega)) _)))) (Hp.new (by simp [World.ext_size]))).mono ?_
  rintro e w7 ⟨rfl, n7, rfl⟩
  go_wp2_with fail
  refine (holdsSame4 _ a5 c5 _ (readsGrown HR5.out (by repeat (first | exact Below.refl _ _ | assumption | with_reducible refine below_drewN ?_ _ | refine Gr.ext ?_ _ | refine Gr.alloc ?_ _ | refine Gr.drew ?_ | (refine Gr.set ?_ (by first | (simp; done) | (simp; omega)) _)))) (Hp.new (by simp [World.ext_size, go_sem]))).mono ?_
  rintro e w8 ⟨rfl, n8, rfl⟩
  go_wp2_with fail
  refine world_any (F := fun W => Below w3.heap.size w3 W) (by repeat (first | exact Below.refl _ _ | assumption | with_reducible refine below_drewN ?_ _ | refine Gr.ext ?_ _ | refine Gr.alloc ?_ _ | refine Gr.drew ?_ | (refine Gr.set ?_ (by first | (simp; done) | (simp; omega)) _))) ?_
  intro W hW
  exact bodyPost_ret (v := .pointer (some ⟨p, 0, none⟩)) (by simp [results, Try.results28, go_sem]) rfl ⟨p, b, D3, rfl, HS3.out.grown hW, HB3.out.2, HB3.out.1.trans (hW.mono HB3.out.1.size)⟩
end Go.Proofs.Ytcbbnmodjnnbeaa
/- The walk of the law's known: the commands that may be. -/
set_option linter.unusedSimpArgs false
set_option linter.unusedVariables false
namespace Go.Proofs.Ytcbbnmodjnnbeaa
open Go.RowKit

theorem infoCmd : (Try.prog.info? 23).map (fun i => (i.zero, i.size, i.bytes)) = some (some (.agg #[.int .i64 0, .string ⟨#[]⟩, .string ⟨#[]⟩, .string ⟨#[]⟩, .int .i64 0, .int .i64 0, .int .i64 0]), 7, 80) := by kernel_rfl
structure LInv (w wr : World) (cs : List Cmd) (v : Value) : Prop where
  own : wr.ownL 23 7 v (cs.map Cmd.cells)
  new : ∀ x, v.ownBlock = some x → w.heap.size ≤ x
  below : Below w.heap.size w wr
theorem LInv.grow {w1 wr W : World} {fs : List Cmd} {v : Value} (h : LInv w1 wr fs v) (hb : Below wr.heap.size wr W) : LInv w1 W fs v :=
  ⟨h.own.keep fun x hx => hb.block x (h.own.lt hx), h.new, h.below.trans (hb.mono h.below.size)⟩
theorem LInv.add {w1 wr W w3 : World} {fs : List Cmd} {f : Cmd} {v v' : Value} (h : LInv w1 wr fs v) (hb : Below wr.heap.size wr W) (ho : w3.ownL 23 7 v' (fs.map Cmd.cells ++ [f.cells])) (hg : Grew W w3 v v') : LInv w1 w3 (fs ++ [f]) v' := by
  have h1 := h.below.size
  have h2 := hb.size
  refine ⟨by rw [List.map_append]; exact ho, fun x hx => ?_, (h.below.trans (hb.mono h1)).trans ⟨hg.g.os, hg.g.tape, hg.g.output, hg.g.size, fun k hk => hg.g.block k (by omega) fun e => by have := h.new k e.symm; omega⟩⟩
  rcases hg.own with h3 | h3
  · exact h.new x (h3 ▸ hx)
  · have := h3 x hx; omega
theorem reads_one {w : World} {q : Nat} {c : Cmd} (h : w.heap[q]? = some (.cells #[.int .i64 c.kind, .string c.key, .string c.val, .string c.old, .int .i64 c.rev, .int .i64 c.ses, .int .i64 c.seq] 23)) : w.reads 7 (.slice (some ⟨q, 0, none⟩) [c].length 1) ([c].map Cmd.cells) := by
  refine .inr ⟨q, 0, 1, rfl, (Array.getElem?_eq_some_iff.1 h).1, fun i x hi => ?_⟩
  have h0 : i = 0 := by have := (List.getElem?_eq_some_iff.1 hi).1; simp at this; omega
  subst h0
  have : x = c.cells := by simpa using hi.symm
  subst this
  refine ⟨rfl, fun j v hj => ?_⟩
  simp only [World.cell?, h, Nat.zero_mul, Nat.zero_add]
  rw [← List.getElem?_toArray] at hj
  exact hj
/-- One command at a new store. -/
theorem doOne (w W : World) (p b : Nat) (D : DataW Value) (s : St) (h : StoreAt W p b D s) (hn : ∀ x, footS p b D x → w.heap.size ≤ x) (hB : Below w.heap.size w W) (q : Nat) (hq : ¬ footS p b D q) (c : Cmd) (hc : W.heap[q]? = some (.cells #[.int .i64 c.kind, .string c.key, .string c.val, .string c.old, .int .i64 c.rev, .int .i64 c.ses, .int .i64 c.seq] 23)) :
    Calls Try.prog 31 #[.pointer (some ⟨p, 0, none⟩), .slice (some ⟨q, 0, none⟩) 1 1] W fun e w' => ∃ v, e = .returned (.tuple #[v, .int .i64 (if c.may = true then 0 else 8)]) ∧ Below w.heap.size w w' := by
  cases hm : c.may
  · exact (storeDoNo W p _ 1 [c] (reads_one hc) (by simp) ⟨c, by simp, hm⟩).mono fun e w' ⟨he, hb⟩ => ⟨_, he, hB.trans (hb.mono hB.size)⟩
  · refine (storeDoYes W p b D s h _ 1 [c] (reads_one hc) (fun k hk => by cases hk; exact hq) (by simp) (fun x hx => by rw [List.mem_singleton.1 hx]; exact hm)).mono ?_
    rintro e w' ⟨g, D', he, _, _, _, _, _, ht⟩
    exact ⟨_, he, hB.trans ⟨ht.os, ht.tape, ht.output, ht.size, fun k hk => ht.block k (Nat.lt_of_lt_of_le hk hB.size) fun hf => by have := hn k hf; omega⟩⟩
set_option maxRecDepth 100000 in
set_option maxHeartbeats 1000000 in
theorem lawKnown (w : World) (a : Option Addr) (cap : Nat) (l : List Cmd) (hr : l ≠ [] → w.reads 7 (.slice a l.length cap) (l.map Cmd.cells)) (hn : l.length * 80 ≤ 140737488355328) :
    Calls Try.prog 29 #[.slice a l.length cap] w fun e w' => ∃ v, e = .returned v ∧ LInv w w' (l.filter Cmd.may) v := by
  go_enter Try.func29, Try.ntmps29
  go_wp2_with fail
  go_loopw [3, 4] (fun v i wr => ∃ k : Nat, k ≤ l.length ∧ i = .int .i64 k ∧ Hid (LInv w wr ((l.take k).filter Cmd.may) v)) (fun _ i _ => l.length - (intOf i).toNat)
  case atStart => exact ⟨0, Nat.zero_le _, rfl, World.ownL.nil _ _ _, (fun x hx => by cases hx), Below.refl _ _⟩
  case round =>
    obtain ⟨k, hk, rfl, HI⟩ := hrel
    by_cases hlt : k < l.length
    · have hb := HI.out.below
      have hr0 := hr (fun e => by rw [e] at hlt; simp at hlt)
      have hr' : wr.reads 7 (.slice a l.length cap) (l.map Cmd.cells) := hr0.keep fun x hx => hb.block x (reads_lt' hr0 hx)
      obtain ⟨g, o, rfl, hg, hv⟩ := Cmd.at_reads hr' hlt
      obtain ⟨d0, d1, d2, d3, d4, d5, d6⟩ := Cmd.off hv
      have HT : Hid ((l.take (k + 1)).filter Cmd.may = (l.take k).filter Cmd.may ++ (if l[k].may = true then [l[k]] else [])) := by
        show _ = _
        rw [List.take_add_one, List.getElem?_eq_getElem hlt, List.filter_append]
        congr 1
        simp [List.filter_cons]
      generalize l[k] = c at *
      have hk1 : (k : Int) < l.length := by omega
      clear hv hr' hr hr0
      have hfl : ((l.take k).filter Cmd.may).length ≤ k := Nat.le_trans (List.length_filter_le _ _) (by rw [List.length_take]; omega)
      have hflen : (((l.take k).filter Cmd.may).map Cmd.cells).length = ((l.take k).filter Cmd.may).length := List.length_map _
      have hl1 : (((l.take k).filter Cmd.may).map Cmd.cells).length + 1 ≤ maxLen := by rw [hflen]; unfold maxLen; omega
      have hl2 : ((((l.take k).filter Cmd.may).map Cmd.cells).length + 1) * 80 ≤ 140737488355328 := by rw [hflen]; omega
      have hone : ∀ u ∈ (#[.int .i64 c.kind, .string c.key, .string c.val, .string c.old, .int .i64 c.rev, .int .i64 c.ses, .int .i64 c.seq] : Array Value).toList, u.oneCell' = true := by
        intro u hu
        simp only [List.mem_cons, List.not_mem_nil, or_false] at hu
        rcases hu with rfl | rfl | rfl | rfl | rfl | rfl | rfl <;> rfl
      have hown := HI.out.own
      generalize (l.take k).filter Cmd.may = fs at *
      clear hfl
      cases hm : c.may
      · have HDO : Hid (∀ (W : World) p b D (hS : StoreAt W p b D St.empty) (hF : ∀ x, footS p b D x → wr.heap.size ≤ x) (hB : Below wr.heap.size wr W) q (hq : ¬ footS p b D q) (hc : W.heap[q]? = some (.cells #[.int .i64 c.kind, .string c.key, .string c.val, .string c.old, .int .i64 c.rev, .int .i64 c.ses, .int .i64 c.seq] 23)), Calls Try.prog 31 #[.pointer (some ⟨p, 0, none⟩), .slice (some ⟨q, 0, none⟩) 1 1] W fun e w' => ∃ v, e = .returned (.tuple #[v, .int .i64 8]) ∧ Below wr.heap.size wr w') := fun W p b D hS hF hB q hq hc => by
          have := doOne wr W p b D _ hS hF hB q hq c hc
          rw [hm] at this
          exact this
        rw [hm] at HT
        go_wp2_with (first | (go_at_call 25; refine (storeNew _).mono ?_; rintro e w1 ⟨p, b, D, rfl, hS, hF, hB⟩; have HS1 : Hid (StoreAt w1 p b D St.empty ∧ w1.heap.size = w1.heap.size) := ⟨hS, rfl⟩; have HB1 : Hid (Below wr.heap.size wr w1) := hB; obtain ⟨x1, hx1⟩ := Below.ext hB; subst hx1; clear hB hS) | (go_at_call 31; go_must (refine (HDO.out _ p b D (HS1.out.1.grown (by repeat (first | exact Below.refl _ _ | assumption | with_reducible refine below_drewN ?_ _ | refine Gr.ext ?_ _ | refine Gr.alloc ?_ _ | refine Gr.drew ?_ | (refine Gr.set ?_ (by first | (simp; done) | (simp; omega)) _)))) hF (by repeat (first | exact Below.refl _ _ | assumption | with_reducible refine below_drewN ?_ _ | refine Gr.ext ?_ _ | refine Gr.alloc ?_ _ | refine Gr.drew ?_ | (refine Gr.set ?_ (by first | (simp; done) | (simp; omega)) _))) _ (fun hf => by have := HS1.out.1.foot_lt hf; simp [World.ext_size] at this) (by repeat (first | with_reducible assumption | (with_reducible refine Hp.new ?_; (first | rfl | (simp [go_sem]; done) | (simp [go_sem]; omega)); done) | with_reducible refine Hp.alloc ?_ _ | with_reducible refine Hp.ext ?_ _ | with_reducible refine Hp.drew ?_ | (with_reducible refine Hp.set ?_ (by simp; omega) _)))).mono ?_; rintro e w3 ⟨v3, rfl, hb3⟩; obtain ⟨x3, rfl⟩ := Below.ext hb3; clear hb3)))
        exact ⟨⟨k + 1, by omega, val_int (by omega), by rw [HT.out]; show LInv _ _ (fs ++ []) _; rw [List.append_nil]; exact HI.out.grow (by repeat (first | exact Below.refl _ _ | assumption | with_reducible refine below_drewN ?_ _ | refine Gr.ext ?_ _ | refine Gr.alloc ?_ _ | refine Gr.drew ?_ | (refine Gr.set ?_ (by first | (simp; done) | (simp; omega)) _)))⟩, by simp [intOf]; omega⟩
      · have HDO : Hid (∀ (W : World) p b D (hS : StoreAt W p b D St.empty) (hF : ∀ x, footS p b D x → wr.heap.size ≤ x) (hB : Below wr.heap.size wr W) q (hq : ¬ footS p b D q) (hc : W.heap[q]? = some (.cells #[.int .i64 c.kind, .string c.key, .string c.val, .string c.old, .int .i64 c.rev, .int .i64 c.ses, .int .i64 c.seq] 23)), Calls Try.prog 31 #[.pointer (some ⟨p, 0, none⟩), .slice (some ⟨q, 0, none⟩) 1 1] W fun e w' => ∃ v, e = .returned (.tuple #[v, .int .i64 0]) ∧ Below wr.heap.size wr w') := fun W p b D hS hF hB q hq hc => by
          have := doOne wr W p b D _ hS hF hB q hq c hc
          rw [hm] at this
          exact this
        rw [hm] at HT
        go_wp2_with (first | (go_at_call 25; refine (storeNew _).mono ?_; rintro e w1 ⟨p, b, D, rfl, hS, hF, hB⟩; have HS1 : Hid (StoreAt w1 p b D St.empty ∧ w1.heap.size = w1.heap.size) := ⟨hS, rfl⟩; have HB1 : Hid (Below wr.heap.size wr w1) := hB; obtain ⟨x1, hx1⟩ := Below.ext hB; subst hx1; clear hB hS) | (go_at_call 31; go_must (refine (HDO.out _ p b D (HS1.out.1.grown (by repeat (first | exact Below.refl _ _ | assumption | with_reducible refine below_drewN ?_ _ | refine Gr.ext ?_ _ | refine Gr.alloc ?_ _ | refine Gr.drew ?_ | (refine Gr.set ?_ (by first | (simp; done) | (simp; omega)) _)))) hF (by repeat (first | exact Below.refl _ _ | assumption | with_reducible refine below_drewN ?_ _ | refine Gr.ext ?_ _ | refine Gr.alloc ?_ _ | refine Gr.drew ?_ | (refine Gr.set ?_ (by first | (simp; done) | (simp; omega)) _))) _ (fun hf => by have := HS1.out.1.foot_lt hf; simp [World.ext_size] at this) (by repeat (first | with_reducible assumption | (with_reducible refine Hp.new ?_; (first | rfl | (simp [go_sem]; done) | (simp [go_sem]; omega)); done) | with_reducible refine Hp.alloc ?_ _ | with_reducible refine Hp.ext ?_ _ | with_reducible refine Hp.drew ?_ | (with_reducible refine Hp.set ?_ (by simp; omega) _)))).mono ?_; rintro e w3 ⟨v3, rfl, hb3⟩; obtain ⟨x3, rfl⟩ := Below.ext hb3; clear hb3)) | (at_builtin; refine Held.out ?_))
        unfold Held
        refine wpL_new rfl _ _ 59 rfl 23 7 80 _ Try.underlying59 infoCmd rfl (by decide) u3 (fs.map Cmd.cells) rfl ((hown.ext x3).alloc _) #[.int .i64 c.kind, .string c.key, .string c.val, .string c.old, .int .i64 c.rev, .int .i64 c.ses, .int .i64 c.seq] (wr.heap.size + x3.new.size) rfl (Hp.new (by simp [go_sem])) rfl hone hl1 hl2 ?_
        intro a' cap' w4 ho4 hg4 _
        have HI4 : Hid (LInv w w4 (fs ++ [c]) (.slice a' ((fs.map Cmd.cells).length + 1) cap')) := HI.out.add (by repeat (first | exact Below.refl _ _ | assumption | with_reducible refine below_drewN ?_ _ | refine Gr.ext ?_ _ | refine Gr.alloc ?_ _ | refine Gr.drew ?_ | (refine Gr.set ?_ (by first | (simp; done) | (simp; omega)) _))) ho4 hg4
        clear ho4 hg4
        go_frame
        go_wp2_with fail
        exact ⟨⟨k + 1, by omega, val_int (by omega), by rw [HT.out]; exact HI4⟩, by simp [intOf]; omega⟩
    · have hkk : k = l.length := by omega
      subst hkk
      have hI := HI.out
      rw [List.take_length] at hI
      have HI2 : Hid (LInv w wr (l.filter Cmd.may) u3) := hI
      clear hI
      go_wp2_with fail
      exact bodyPost_ret (v := u3) (by simp [results, Try.results29, go_sem]) rfl ⟨u3, rfl, HI2.out⟩
end Go.Proofs.Ytcbbnmodjnnbeaa
/- The law's own comparison of two lists: sameResults. -/
set_option linter.unusedSimpArgs false
set_option linter.unusedVariables false
namespace Go.Proofs.Ytcbbnmodjnnbeaa
open Go.RowKit

theorem Res.off {w : World} {b p : Nat} {r : Res} (h : w.rangeAt b p r.cells) :
    w.cell? ⟨b, p, none⟩ = some (.bool r.ok) ∧ w.cell? ⟨b, p + 1, none⟩ = some (.int .i64 r.rev) ∧ w.cell? ⟨b, p + 2, none⟩ = some (.bool r.stale) :=
  ⟨h 0 _ rfl, h 1 _ rfl, h 2 _ rfl⟩
theorem Res.at_reads {w : World} {a : Option Addr} {n cap : Nat} {rs : List Res} (h : w.reads 3 (.slice a n cap) (rs.map Res.cells)) {k : Nat} (hk : k < rs.length) : ∃ g o, a = some ⟨g, o, none⟩ ∧ g < w.heap.size ∧ w.rangeAt g (o + k * 3) rs[k].cells := by
  rcases h with ⟨_, h2⟩ | ⟨g, off, cap', hv, hg, hc⟩
  · have : rs = [] := by simpa using h2
    subst this; simp at hk
  · injection hv with h1 h2 h3
    exact ⟨g, off, h1, hg, (hc k rs[k].cells (by rw [List.getElem?_map, List.getElem?_eq_getElem hk]; rfl)).2⟩
set_option maxRecDepth 100000 in
set_option maxHeartbeats 1000000 in
theorem sameResults_same (a1 a2 : Option Addr) (c1 c2 : Nat) (rs : List Res) (w : World) (hn : rs.length ≤ 281474976710656) (h1 : w.reads 3 (.slice a1 rs.length c1) (rs.map Res.cells)) (h2 : w.reads 3 (.slice a2 rs.length c2) (rs.map Res.cells)) :
    Calls Try.prog 36 #[.slice a1 rs.length c1, .slice a2 rs.length c2] w fun e w' => e = .returned (.bool true) ∧ ∃ n, w' = w.drewN n := by
  have heqn := neq_res
  go_enter Try.func36, Try.ntmps36
  go_wp2
  go_loopw [5] (fun i wr => ∃ k : Nat, k ≤ rs.length ∧ i = .int .i64 k ∧ ∃ n, wr = w.drewN n) (fun i _ => rs.length - (intOf i).toNat)
  case atStart => exact ⟨0, Nat.zero_le _, rfl, 0, rfl⟩
  case round =>
    obtain ⟨k, hk, rfl, n, rfl⟩ := hrel
    by_cases hlt : k < rs.length
    · obtain ⟨g1, o1, rfl, hg1, hr1⟩ := Res.at_reads h1 hlt
      obtain ⟨g2, o2, rfl, hg2, hr2⟩ := Res.at_reads h2 hlt
      generalize rs[k] = c at hr1 hr2
      obtain ⟨x0, x1, x2⟩ := Res.off hr1
      obtain ⟨y0, y1, y2⟩ := Res.off hr2
      have hcc : Res.same c c = true := (Res.same_iff c c).2 rfl
      clear hr1 hr2 h1 h2
      go_wp2
      go_quiet (fail)
      go_wp2
      exact ⟨⟨k + 1, by omega, val_int (by omega), n + nq, rfl⟩, by simp [intOf]; omega⟩
    · have hkk : k = rs.length := by omega
      subst hkk
      go_wp2
      go_ret
      exact ⟨rfl, n, rfl⟩
end Go.Proofs.Ytcbbnmodjnnbeaa
