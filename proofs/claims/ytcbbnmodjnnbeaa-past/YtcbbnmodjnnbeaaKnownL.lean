/- The walk of the law's known: the commands that may be. -/
import Derived.Test.YtcbbnmodjnnbeaaDoW
import Derived.Test.YtcbbnmodjnnbeaaNewW
import Derived.Deep.DeepMust
set_option linter.unusedSimpArgs false
set_option linter.unusedVariables false
namespace Go.Proofs.Ytcbbnmodjnnbeaa
open Go.RowKit

theorem infoCmd : (Try.prog.info? 23).map (fun i => (i.zero, i.size, i.bytes)) = some (some (.agg #[.int .i64 0, .string ⟨#[]⟩, .string ⟨#[]⟩, .string ⟨#[]⟩, .int .i64 0, .int .i64 0, .int .i64 0]), 7, 80) := by kernel_rfl
structure LInv (w wr : World) (cs : List Cmd) (v : Value) : Prop where
  own : wr.ownL 23 7 v (cs.map Cmd.cells)
  new : ∀ x, v.ownBlock = some x → w.heap.size ≤ x
  below : Below w.heap.size w wr
theorem LInv.grow {w1 wr W : World} {fs : List Cmd} {v : Value} (h : LInv w1 wr fs v) (hb : Below wr.heap.size wr W) : LInv w1 W fs v :=
  ⟨h.own.keep fun x hx => hb.block x (h.own.lt hx), h.new, h.below.trans (hb.mono h.below.size)⟩
theorem LInv.add {w1 wr W w3 : World} {fs : List Cmd} {f : Cmd} {v v' : Value} (h : LInv w1 wr fs v) (hb : Below wr.heap.size wr W) (ho : w3.ownL 23 7 v' (fs.map Cmd.cells ++ [f.cells])) (hg : Grew W w3 v v') : LInv w1 w3 (fs ++ [f]) v' := by
  have h1 := h.below.size
  have h2 := hb.size
  refine ⟨by rw [List.map_append]; exact ho, fun x hx => ?_, (h.below.trans (hb.mono h1)).trans ⟨hg.g.os, hg.g.tape, hg.g.output, hg.g.size, fun k hk => hg.g.block k (by omega) fun e => by have := h.new k e.symm; omega⟩⟩
  rcases hg.own with h3 | h3
  · exact h.new x (h3 ▸ hx)
  · have := h3 x hx; omega
theorem reads_one {w : World} {q : Nat} {c : Cmd} (h : w.heap[q]? = some (.cells #[.int .i64 c.kind, .string c.key, .string c.val, .string c.old, .int .i64 c.rev, .int .i64 c.ses, .int .i64 c.seq] 23)) : w.reads 7 (.slice (some ⟨q, 0, none⟩) [c].length 1) ([c].map Cmd.cells) := by
  refine .inr ⟨q, 0, 1, rfl, (Array.getElem?_eq_some_iff.1 h).1, fun i x hi => ?_⟩
  have h0 : i = 0 := by have := (List.getElem?_eq_some_iff.1 hi).1; simp at this; omega
  subst h0
  have : x = c.cells := by simpa using hi.symm
  subst this
  refine ⟨rfl, fun j v hj => ?_⟩
  simp only [World.cell?, h, Nat.zero_mul, Nat.zero_add]
  rw [← List.getElem?_toArray] at hj
  exact hj
/-- One command at a new store. -/
theorem doOne (w W : World) (p b : Nat) (D : DataW Value) (s : St) (h : StoreAt W p b D s) (hn : ∀ x, footS p b D x → w.heap.size ≤ x) (hB : Below w.heap.size w W) (q : Nat) (hq : ¬ footS p b D q) (c : Cmd) (hc : W.heap[q]? = some (.cells #[.int .i64 c.kind, .string c.key, .string c.val, .string c.old, .int .i64 c.rev, .int .i64 c.ses, .int .i64 c.seq] 23)) :
    Calls Try.prog 31 #[.pointer (some ⟨p, 0, none⟩), .slice (some ⟨q, 0, none⟩) 1 1] W fun e w' => ∃ v, e = .returned (.tuple #[v, .int .i64 (if c.may = true then 0 else 8)]) ∧ Below w.heap.size w w' := by
  cases hm : c.may
  · exact (storeDoNo W p _ 1 [c] (reads_one hc) (by simp) ⟨c, by simp, hm⟩).mono fun e w' ⟨he, hb⟩ => ⟨_, he, hB.trans (hb.mono hB.size)⟩
  · refine (storeDoYes W p b D s h _ 1 [c] (reads_one hc) (fun k hk => by cases hk; exact hq) (by simp) (fun x hx => by rw [List.mem_singleton.1 hx]; exact hm)).mono ?_
    rintro e w' ⟨g, D', he, _, _, _, _, _, ht⟩
    exact ⟨_, he, hB.trans ⟨ht.os, ht.tape, ht.output, ht.size, fun k hk => ht.block k (Nat.lt_of_lt_of_le hk hB.size) fun hf => by have := hn k hf; omega⟩⟩
set_option maxRecDepth 100000 in
set_option maxHeartbeats 1000000 in
theorem lawKnown (w : World) (a : Option Addr) (cap : Nat) (l : List Cmd) (hr : l ≠ [] → w.reads 7 (.slice a l.length cap) (l.map Cmd.cells)) (hn : l.length * 80 ≤ 140737488355328) :
    Calls Try.prog 29 #[.slice a l.length cap] w fun e w' => ∃ v, e = .returned v ∧ LInv w w' (l.filter Cmd.may) v := by
  go_enter Try.func29, Try.ntmps29
  go_wp2_with fail
  go_loopw [3, 4] (fun v i wr => ∃ k : Nat, k ≤ l.length ∧ i = .int .i64 k ∧ Hid (LInv w wr ((l.take k).filter Cmd.may) v)) (fun _ i _ => l.length - (intOf i).toNat)
  case atStart => exact ⟨0, Nat.zero_le _, rfl, World.ownL.nil _ _ _, (fun x hx => by cases hx), Below.refl _ _⟩
  case round =>
    obtain ⟨k, hk, rfl, HI⟩ := hrel
    by_cases hlt : k < l.length
    · have hb := HI.out.below
      have hr0 := hr (fun e => by rw [e] at hlt; simp at hlt)
      have hr' : wr.reads 7 (.slice a l.length cap) (l.map Cmd.cells) := hr0.keep fun x hx => hb.block x (reads_lt' hr0 hx)
      obtain ⟨g, o, rfl, hg, hv⟩ := Cmd.at_reads hr' hlt
      obtain ⟨d0, d1, d2, d3, d4, d5, d6⟩ := Cmd.off hv
      have HT : Hid ((l.take (k + 1)).filter Cmd.may = (l.take k).filter Cmd.may ++ (if l[k].may = true then [l[k]] else [])) := by
        show _ = _
        rw [List.take_add_one, List.getElem?_eq_getElem hlt, List.filter_append]
        congr 1
        simp [List.filter_cons]
      generalize l[k] = c at *
      have hk1 : (k : Int) < l.length := by omega
      clear hv hr' hr hr0
      have hfl : ((l.take k).filter Cmd.may).length ≤ k := Nat.le_trans (List.length_filter_le _ _) (by rw [List.length_take]; omega)
      have hflen : (((l.take k).filter Cmd.may).map Cmd.cells).length = ((l.take k).filter Cmd.may).length := List.length_map _
      have hl1 : (((l.take k).filter Cmd.may).map Cmd.cells).length + 1 ≤ maxLen := by rw [hflen]; unfold maxLen; omega
      have hl2 : ((((l.take k).filter Cmd.may).map Cmd.cells).length + 1) * 80 ≤ 140737488355328 := by rw [hflen]; omega
      have hone : ∀ u ∈ (#[.int .i64 c.kind, .string c.key, .string c.val, .string c.old, .int .i64 c.rev, .int .i64 c.ses, .int .i64 c.seq] : Array Value).toList, u.oneCell' = true := by
        intro u hu
        simp only [List.mem_cons, List.not_mem_nil, or_false] at hu
        rcases hu with rfl | rfl | rfl | rfl | rfl | rfl | rfl <;> rfl
      have hown := HI.out.own
      generalize (l.take k).filter Cmd.may = fs at *
      clear hfl
      cases hm : c.may
      · have HDO : Hid (∀ (W : World) p b D (hS : StoreAt W p b D St.empty) (hF : ∀ x, footS p b D x → wr.heap.size ≤ x) (hB : Below wr.heap.size wr W) q (hq : ¬ footS p b D q) (hc : W.heap[q]? = some (.cells #[.int .i64 c.kind, .string c.key, .string c.val, .string c.old, .int .i64 c.rev, .int .i64 c.ses, .int .i64 c.seq] 23)), Calls Try.prog 31 #[.pointer (some ⟨p, 0, none⟩), .slice (some ⟨q, 0, none⟩) 1 1] W fun e w' => ∃ v, e = .returned (.tuple #[v, .int .i64 8]) ∧ Below wr.heap.size wr w') := fun W p b D hS hF hB q hq hc => by
          have := doOne wr W p b D _ hS hF hB q hq c hc
          rw [hm] at this
          exact this
        rw [hm] at HT
        go_wp2_with (first | (go_at_call 25; refine (storeNew _).mono ?_; rintro e w1 ⟨p, b, D, rfl, hS, hF, hB⟩; have HS1 : Hid (StoreAt w1 p b D St.empty ∧ w1.heap.size = w1.heap.size) := ⟨hS, rfl⟩; have HB1 : Hid (Below wr.heap.size wr w1) := hB; obtain ⟨x1, hx1⟩ := Below.ext hB; subst hx1; clear hB hS) | (go_at_call 31; go_must (refine (HDO.out _ p b D (HS1.out.1.grown (by repeat (first | exact Below.refl _ _ | assumption | with_reducible refine below_drewN ?_ _ | refine Gr.ext ?_ _ | refine Gr.alloc ?_ _ | refine Gr.drew ?_ | (refine Gr.set ?_ (by first | (simp; done) | (simp; omega)) _)))) hF (by repeat (first | exact Below.refl _ _ | assumption | with_reducible refine below_drewN ?_ _ | refine Gr.ext ?_ _ | refine Gr.alloc ?_ _ | refine Gr.drew ?_ | (refine Gr.set ?_ (by first | (simp; done) | (simp; omega)) _))) _ (fun hf => by have := HS1.out.1.foot_lt hf; simp [World.ext_size] at this) (by repeat (first | with_reducible assumption | (with_reducible refine Hp.new ?_; (first | rfl | (simp [go_sem]; done) | (simp [go_sem]; omega)); done) | with_reducible refine Hp.alloc ?_ _ | with_reducible refine Hp.ext ?_ _ | with_reducible refine Hp.drew ?_ | (with_reducible refine Hp.set ?_ (by simp; omega) _)))).mono ?_; rintro e w3 ⟨v3, rfl, hb3⟩; obtain ⟨x3, rfl⟩ := Below.ext hb3; clear hb3)))
        exact ⟨⟨k + 1, by omega, val_int (by omega), by rw [HT.out]; show LInv _ _ (fs ++ []) _; rw [List.append_nil]; exact HI.out.grow (by repeat (first | exact Below.refl _ _ | assumption | with_reducible refine below_drewN ?_ _ | refine Gr.ext ?_ _ | refine Gr.alloc ?_ _ | refine Gr.drew ?_ | (refine Gr.set ?_ (by first | (simp; done) | (simp; omega)) _)))⟩, by simp [intOf]; omega⟩
      · have HDO : Hid (∀ (W : World) p b D (hS : StoreAt W p b D St.empty) (hF : ∀ x, footS p b D x → wr.heap.size ≤ x) (hB : Below wr.heap.size wr W) q (hq : ¬ footS p b D q) (hc : W.heap[q]? = some (.cells #[.int .i64 c.kind, .string c.key, .string c.val, .string c.old, .int .i64 c.rev, .int .i64 c.ses, .int .i64 c.seq] 23)), Calls Try.prog 31 #[.pointer (some ⟨p, 0, none⟩), .slice (some ⟨q, 0, none⟩) 1 1] W fun e w' => ∃ v, e = .returned (.tuple #[v, .int .i64 0]) ∧ Below wr.heap.size wr w') := fun W p b D hS hF hB q hq hc => by
          have := doOne wr W p b D _ hS hF hB q hq c hc
          rw [hm] at this
          exact this
        rw [hm] at HT
        go_wp2_with (first | (go_at_call 25; refine (storeNew _).mono ?_; rintro e w1 ⟨p, b, D, rfl, hS, hF, hB⟩; have HS1 : Hid (StoreAt w1 p b D St.empty ∧ w1.heap.size = w1.heap.size) := ⟨hS, rfl⟩; have HB1 : Hid (Below wr.heap.size wr w1) := hB; obtain ⟨x1, hx1⟩ := Below.ext hB; subst hx1; clear hB hS) | (go_at_call 31; go_must (refine (HDO.out _ p b D (HS1.out.1.grown (by repeat (first | exact Below.refl _ _ | assumption | with_reducible refine below_drewN ?_ _ | refine Gr.ext ?_ _ | refine Gr.alloc ?_ _ | refine Gr.drew ?_ | (refine Gr.set ?_ (by first | (simp; done) | (simp; omega)) _)))) hF (by repeat (first | exact Below.refl _ _ | assumption | with_reducible refine below_drewN ?_ _ | refine Gr.ext ?_ _ | refine Gr.alloc ?_ _ | refine Gr.drew ?_ | (refine Gr.set ?_ (by first | (simp; done) | (simp; omega)) _))) _ (fun hf => by have := HS1.out.1.foot_lt hf; simp [World.ext_size] at this) (by repeat (first | with_reducible assumption | (with_reducible refine Hp.new ?_; (first | rfl | (simp [go_sem]; done) | (simp [go_sem]; omega)); done) | with_reducible refine Hp.alloc ?_ _ | with_reducible refine Hp.ext ?_ _ | with_reducible refine Hp.drew ?_ | (with_reducible refine Hp.set ?_ (by simp; omega) _)))).mono ?_; rintro e w3 ⟨v3, rfl, hb3⟩; obtain ⟨x3, rfl⟩ := Below.ext hb3; clear hb3)) | (at_builtin; refine Held.out ?_))
        unfold Held
        refine wpL_new rfl _ _ 59 rfl 23 7 80 _ Try.underlying59 infoCmd rfl (by decide) u3 (fs.map Cmd.cells) rfl ((hown.ext x3).alloc _) #[.int .i64 c.kind, .string c.key, .string c.val, .string c.old, .int .i64 c.rev, .int .i64 c.ses, .int .i64 c.seq] (wr.heap.size + x3.new.size) rfl (Hp.new (by simp [go_sem])) rfl hone hl1 hl2 ?_
        intro a' cap' w4 ho4 hg4 _
        have HI4 : Hid (LInv w w4 (fs ++ [c]) (.slice a' ((fs.map Cmd.cells).length + 1) cap')) := HI.out.add (by repeat (first | exact Below.refl _ _ | assumption | with_reducible refine below_drewN ?_ _ | refine Gr.ext ?_ _ | refine Gr.alloc ?_ _ | refine Gr.drew ?_ | (refine Gr.set ?_ (by first | (simp; done) | (simp; omega)) _))) ho4 hg4
        clear ho4 hg4
        go_frame
        go_wp2_with fail
        exact ⟨⟨k + 1, by omega, val_int (by omega), by rw [HT.out]; exact HI4⟩, by simp [intOf]; omega⟩
    · have hkk : k = l.length := by omega
      subst hkk
      have hI := HI.out
      rw [List.take_length] at hI
      have HI2 : Hid (LInv w wr (l.filter Cmd.may) u3) := hI
      clear hI
      go_wp2_with fail
      exact bodyPost_ret (v := u3) (by simp [results, Try.results29, go_sem]) rfl ⟨u3, rfl, HI2.out⟩
end Go.Proofs.Ytcbbnmodjnnbeaa
