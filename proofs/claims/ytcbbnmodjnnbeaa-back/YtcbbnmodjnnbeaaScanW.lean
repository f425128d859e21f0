/- The walk of the program's Scan. -/
import Derived.Test.YtcbbnmodjnnbeaaScanB
import Derived.Deep.DeepMust
set_option linter.unusedSimpArgs false
set_option linter.unusedVariables false
namespace Go.Proofs.Ytcbbnmodjnnbeaa
open Go.RowKit
attribute [local go_sem] World.ext_ext

theorem blockL_size (l : List UInt8) : (blockL l false).1.length ≤ 16777216 := by
  unfold blockL
  have h := numL_lt l false
  unfold takeL
  split
  · simp
  · simp; omega
theorem rdAt_grew {w w' : World} {v v' : Value} {p : Nat} {l : List UInt8} {b : Bool} (h : RdAt w p l b) (hg : Grew w w' v v') (hne : v.ownBlock ≠ some p) : RdAt w' p l b := h.keep (hg.keep h.lt hne)

theorem OwnR.base {w : World} {base base' : Nat} {v : Value} {rs : List Rec} (h : OwnR w base v rs) (hb : base' ≤ base) : OwnR w base' v rs := ownsRow_base h fun k hk => Nat.le_trans hb (h.lt hk).1

set_option maxRecDepth 100000 in
set_option maxHeartbeats 2000000 in
theorem codecScan (s : ByteArray) (w : World) (hs : s.size ≤ 100000000000) :
    Calls Try.prog 19 #[.string s] w fun e w' => ∃ v rs l, Hid (ScanTo s.data.toList rs l) ∧ Hid (scanStep l = none) ∧ e = .returned (.tuple #[v, .int .i64 ((s.size : Int) - l.length)]) ∧ OwnR w' w.heap.size v rs ∧ Below w.heap.size w w' := by
  have hsl : Hid (s.data.toList.length = s.size) := len_data s
  have hs' : Hid (s.size ≤ 100000000000) := hs
  have hR0 := rdNew w w.heap.size s.data.toList false rfl
  rw [B_eta] at hR0
  go_enter Try.func19, Try.ntmps19
  go_wp2_with fail
  refine (newReader s _).mono ?_
  rintro e w1 ⟨rfl, rfl⟩
  go_wp2_with fail
  go_loopw [4, 5] (fun v tk wr => ∃ rs l, Hid (ScanTo s.data.toList rs l) ∧ l.length ≤ s.size ∧ tk = .int .i64 ((s.size : Int) - l.length) ∧ RdAt wr w.heap.size l false ∧ OwnR wr (w.heap.size + 1) v rs ∧ Below w.heap.size w wr) (fun _ tk _ => s.size - (intOf tk).toNat)
  case atStart =>
    refine ⟨[], s.data.toList, rfl, by rw [hsl.out]; omega, by rw [hsl.out]; simp, hR0, OwnR.nil _ _, (Below.refl _ _).alloc (Nat.le_refl _) _⟩
  case round =>
    obtain ⟨rs, l, HS, hl, rfl, hr, ho, hb⟩ := hrel
    have hlm : Hid (l.length ≤ maxLen) := by show _ ≤ _; have := hs'.out; unfold maxLen; omega
    have hp := hr.lt
    have hbs := hb.size
    have hn1 : rs.length ≤ 100000000000 := by have h1 := ScanTo.len _ _ _ HS.out; have h2 := hsl.out; have h3 := hs'.out; omega
    go_wp2_with fail
    refine (blockN w.heap.size l false _ hr hlm.out).mono ?_
    rintro e w1 ⟨t, HT, hlt, -, rfl, x1, rfl⟩
    have hb1 : Hid ((B t.1).size ≤ 281474976710656) := by show _ ≤ _; rw [B_size, HT.out]; have := blockL_size l; omega
    go_wp2_with fail
    refine (progDecode (B t.1) _ hb1.out).mono ?_
    rintro e w2 ⟨q, er, HQ, rfl, hb2⟩
    obtain ⟨x2, rfl⟩ := Below.ext hb2
    clear hb2
    have HQ' : Hid ((q, er) = decR (blockL l false).1) := by show _ = _; rw [HQ.out, HT.out]; rfl
    clear HQ
    by_cases he : er = 0
    · subst he
      have HN : Hid (scanStep l = some (q, t.2.1)) := by show _ = _; unfold scanStep; rw [← HQ'.out, if_pos rfl, HT.out]
      have hsome := scanStep_some HN.out
      have ht2 : Hid (t.2.2 = false) := by show _ = _; rw [HT.out]; rw [hsome.2.1]
      have hlen := hsome.2.2
      clear hsome
      have HS2 : Hid (ScanTo s.data.toList (rs ++ [q]) t.2.1) := ScanTo.snoc _ _ _ _ _ HS.out HN.out
      go_wp2_with (first | (at_builtin; go_must (refine wpR_new rfl _ _ rfl (w.heap.size + 1) u4 rs rfl (by repeat (first | with_reducible exact ho | with_reducible refine OwnR.alloc ?_ _ | with_reducible refine OwnR.ext ?_ _ | (with_reducible refine OwnR.put ?_ (Nat.lt_succ_self _) _ _))) q _ rfl (new_cells' (by simp [go_sem]) rfl) hn1 (by simp [go_sem]; omega) ?_; intro v' w3 ho3 hg3; have hr3 : RdAt w3 w.heap.size t.2.1 t.2.2 := rdAt_grew (p := w.heap.size) (l := t.2.1) (b := t.2.2) (by repeat (first | with_reducible exact hr | with_reducible exact RdAt.ok hr | with_reducible refine RdAt.ext ?_ _ | with_reducible refine RdOk.at ?_ _ _ | with_reducible refine RdAt.alloc ?_ _ | with_reducible refine RdOk.ext ?_ _ | with_reducible refine RdOk.put ?_ _ _ | with_reducible refine RdOk.alloc ?_ _)) hg3 (fun hh => by have := (ho.lt hh).1; omega); have hb3 : Below w.heap.size w w3 := Below.grown (by repeat (first | with_reducible exact hb | with_reducible refine Gr.ext ?_ _ | with_reducible refine Gr.alloc ?_ _ | (with_reducible refine Gr.put ?_ (Nat.le_refl _) _ _))) hg3.g (by simp [go_sem]; omega) (fun k hk => by have := (ho.lt hk).1; omega))) | (go_at_call 61; go_must (refine (readerLeft w.heap.size t.2.1 t.2.2 _ hr3).mono ?_; rintro e w4 ⟨rfl, rfl⟩)))
      have hrf : RdAt w4 w.heap.size t.2.1 false := by rw [← ht2.out]; exact hr3
      refine ⟨⟨rs ++ [q], t.2.1, HS2, by omega, rfl, hrf, ho3, hb3⟩, ?_⟩
      simp only [intOf]
      omega
    · have HN : Hid (scanStep l = none) := by show _ = _; unfold scanStep; rw [← HQ'.out, if_neg he]
      go_wp2_with fail
      go_ret2
      exact ⟨u4, rs, l, HS, HN, rfl, OwnR.base (by repeat (first | with_reducible exact ho | with_reducible refine OwnR.alloc ?_ _ | with_reducible refine OwnR.ext ?_ _ | (with_reducible refine OwnR.put ?_ (Nat.lt_succ_self _) _ _))) (Nat.le_succ _), (by repeat (first | with_reducible exact hb | with_reducible refine Gr.ext ?_ _ | with_reducible refine Gr.alloc ?_ _ | (with_reducible refine Gr.put ?_ (Nat.le_refl _) _ _)))⟩
end Go.Proofs.Ytcbbnmodjnnbeaa
