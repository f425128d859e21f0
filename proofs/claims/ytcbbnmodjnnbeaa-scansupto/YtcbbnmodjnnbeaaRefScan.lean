/- The walk of the program's Scan. -/
import Derived.Test.YtcbbnmodjnnbeaaScanP
import Derived.Deep.DeepMust
set_option linter.unusedSimpArgs false
set_option linter.unusedVariables false
namespace Go.Proofs.Ytcbbnmodjnnbeaa
open Go.RowKit
attribute [local go_sem] World.ext_ext

theorem blockL_size (l : List UInt8) : (blockL l false).1.length ≤ 16777216 := by
  unfold blockL
  have h := numL_lt l false
  unfold takeL
  split
  · simp
  · simp; omega
theorem rdAt_grew {w w' : World} {v v' : Value} {p : Nat} {l : List UInt8} {b : Bool} (h : RdAt w p l b) (hg : Grew w w' v v') (hne : v.ownBlock ≠ some p) : RdAt w' p l b := h.keep (hg.keep h.lt hne)

theorem OwnR.base {w : World} {base base' : Nat} {v : Value} {rs : List Rec} (h : OwnR w base v rs) (hb : base' ≤ base) : OwnR w base' v rs := ownsRow_base h fun k hk => Nat.le_trans hb (h.lt hk).1

set_option maxRecDepth 100000 in
set_option maxHeartbeats 2000000 in
theorem codecScan (s : ByteArray) (w : World) (hs : s.size ≤ 100000000000) :
    Calls Try.prog 19 #[.string s] w fun e w' => ∃ v rs l, Hid (ScanTo s.data.toList rs l) ∧ Hid (scanStep l = none) ∧ e = .returned (.tuple #[v, .int .i64 ((s.size : Int) - l.length)]) ∧ OwnR w' w.heap.size v rs ∧ Below w.heap.size w w' := by
  have hsl : Hid (s.data.toList.length = s.size) := len_data s
  have hs' : Hid (s.size ≤ 100000000000) := hs
  have hR0 := rdNew w w.heap.size s.data.toList false rfl
  rw [B_eta] at hR0
  go_enter Try.func19, Try.ntmps19
  go_wp2_with fail
  refine (newReader s _).mono ?_
  rintro e w1 ⟨rfl, rfl⟩
  go_wp2_with fail
  go_loopw [4, 5] (fun v tk wr => ∃ rs l, Hid (ScanTo s.data.toList rs l) ∧ l.length ≤ s.size ∧ tk = .int .i64 ((s.size : Int) - l.length) ∧ RdAt wr w.heap.size l false ∧ OwnR wr (w.heap.size + 1) v rs ∧ Below w.heap.size w wr) (fun _ tk _ => s.size - (intOf tk).toNat)
  case atStart =>
    refine ⟨[], s.data.toList, rfl, by rw [hsl.out]; omega, by rw [hsl.out]; simp, hR0, OwnR.nil _ _, (Below.refl _ _).alloc (Nat.le_refl _) _⟩
  case round =>
    obtain ⟨rs, l, HS, hl, rfl, hr, ho, hb⟩ := hrel
    have hlm : Hid (l.length ≤ maxLen) := by show _ ≤ _; have := hs'.out; unfold maxLen; omega
    have hp := hr.lt
    have hbs := hb.size
    have hn1 : rs.length ≤ 100000000000 := by have h1 := ScanTo.len _ _ _ HS.out; have h2 := hsl.out; have h3 := hs'.out; omega
    go_wp2_with fail
    refine (blockN w.heap.size l false _ hr hlm.out).mono ?_
    rintro e w1 ⟨t, HT, hlt, -, rfl, x1, rfl⟩
    have hb1 : Hid ((B t.1).size ≤ 281474976710656) := by show _ ≤ _; rw [B_size, HT.out]; have := blockL_size l; omega
    go_wp2_with fail
    refine (progDecode (B t.1) _ hb1.out).mono ?_
    rintro e w2 ⟨q, er, HQ, rfl, hb2⟩
    obtain ⟨x2, rfl⟩ := Below.ext hb2
    clear hb2
    have HQ' : Hid ((q, er) = decR (blockL l false).1) := by show _ = _; rw [HQ.out, HT.out]; rfl
    clear HQ
    by_cases he : er = 0
    · subst he
      have HN : Hid (scanStep l = some (q, t.2.1)) := by show _ = _; unfold scanStep; rw [← HQ'.out, if_pos rfl, HT.out]
      have hsome := scanStep_some HN.out
      have ht2 : Hid (t.2.2 = false) := by show _ = _; rw [HT.out]; rw [hsome.2.1]
      have hlen := hsome.2.2
      clear hsome
      have HS2 : Hid (ScanTo s.data.toList (rs ++ [q]) t.2.1) := ScanTo.snoc _ _ _ _ _ HS.out HN.out
      go_wp2_with (first | (at_builtin; go_must (refine wpR_new rfl _ _ rfl (w.heap.size + 1) u4 rs rfl (by repeat (first | with_reducible exact ho | with_reducible refine OwnR.alloc ?_ _ | with_reducible refine OwnR.ext ?_ _ | (with_reducible refine OwnR.put ?_ (Nat.lt_succ_self _) _ _))) q _ rfl (new_cells' (by simp [go_sem]) rfl) hn1 (by simp [go_sem]; omega) ?_; intro v' w3 ho3 hg3; have hr3 : RdAt w3 w.heap.size t.2.1 t.2.2 := rdAt_grew (p := w.heap.size) (l := t.2.1) (b := t.2.2) (by repeat (first | with_reducible exact hr | with_reducible exact RdAt.ok hr | with_reducible refine RdAt.ext ?_ _ | with_reducible refine RdOk.at ?_ _ _ | with_reducible refine RdAt.alloc ?_ _ | with_reducible refine RdOk.ext ?_ _ | with_reducible refine RdOk.put ?_ _ _ | with_reducible refine RdOk.alloc ?_ _)) hg3 (fun hh => by have := (ho.lt hh).1; omega); have hb3 : Below w.heap.size w w3 := Below.grown (by repeat (first | with_reducible exact hb | with_reducible refine Gr.ext ?_ _ | with_reducible refine Gr.alloc ?_ _ | (with_reducible refine Gr.put ?_ (Nat.le_refl _) _ _))) hg3.g (by simp [go_sem]; omega) (fun k hk => by have := (ho.lt hk).1; omega))) | (go_at_call 61; go_must (refine (readerLeft w.heap.size t.2.1 t.2.2 _ hr3).mono ?_; rintro e w4 ⟨rfl, rfl⟩)))
      have hrf : RdAt w4 w.heap.size t.2.1 false := by rw [← ht2.out]; exact hr3
      refine ⟨⟨rs ++ [q], t.2.1, HS2, by omega, rfl, hrf, ho3, hb3⟩, ?_⟩
      simp only [intOf]
      omega
    · have HN : Hid (scanStep l = none) := by show _ = _; unfold scanStep; rw [← HQ'.out, if_neg he]
      go_wp2_with fail
      go_ret2
      exact ⟨u4, rs, l, HS, HN, rfl, OwnR.base (by repeat (first | with_reducible exact ho | with_reducible refine OwnR.alloc ?_ _ | with_reducible refine OwnR.ext ?_ _ | (with_reducible refine OwnR.put ?_ (Nat.lt_succ_self _) _ _))) (Nat.le_succ _), (by repeat (first | with_reducible exact hb | with_reducible refine Gr.ext ?_ _ | with_reducible refine Gr.alloc ?_ _ | (with_reducible refine Gr.put ?_ (Nat.le_refl _) _ _)))⟩
end Go.Proofs.Ytcbbnmodjnnbeaa
/- The walk of the document's Scan. -/
set_option linter.unusedSimpArgs false
set_option linter.unusedVariables false
namespace Go.Proofs.Ytcbbnmodjnnbeaa
open Go.RowKit
attribute [local go_sem] World.ext_ext

theorem rd_drop (l : List UInt8) (p : Nat) : ∀ k : Nat, k ≤ 3 → rd ((l.drop p).take 3) 0 k = rd l p k
  | 0, _ => rfl
  | k + 1, h => by
    rw [rd, rd, rd_drop l p k (by omega), Nat.zero_add, List.getElem?_take_of_lt (by omega), List.getElem?_drop]
theorem block_at (l : List UInt8) (p n : Nat) (h3 : p + 3 ≤ l.length) (hn : rd l p 3 = n) :
    blockL (l.drop p) false = if l.length < p + 3 + n then ([], [], true) else ((l.drop (p + 3)).take n, l.drop (p + 3 + n), false) := by
  have h1 : takeL (l.drop p) false 3 = ((l.drop p).take 3, l.drop (p + 3), false) := by
    unfold takeL; rw [if_neg (by simp; omega), List.drop_drop]
  have h2 : numL (l.drop p) false = (n, l.drop (p + 3), false) := by
    unfold numL; rw [h1, if_neg (by simp)]; simp only; rw [rd_drop l p 3 (by omega), hn]
  unfold blockL
  rw [h2]
  simp only
  unfold takeL
  rw [List.length_drop, List.drop_drop]
  by_cases h : l.length < p + 3 + n
  · rw [if_pos (by omega), if_pos h]
  · rw [if_neg (by omega), if_neg h]
theorem scan_short' (l : List UInt8) (h : (blockL l false).1 = []) : scanStep l = none := by
  unfold scanStep
  rw [h, decR_nil, if_neg (by omega)]
theorem scan_end (l : List UInt8) (p : Nat) (h : l.length < p + 3) : scanStep (l.drop p) = none := by
  apply scan_short'
  unfold blockL
  have h1 : numL (l.drop p) false = (0, [], true) := by
    have h0 : takeL (l.drop p) false 3 = ([], [], true) := by unfold takeL; rw [if_pos (by rw [List.length_drop]; omega)]
    unfold numL; rw [h0]; rfl
  rw [h1]
  unfold takeL
  simp

theorem ret2_int {v : Value} {m n : Int} (h : m = n) : Ending.returned (.tuple #[v, .int .i64 m]) = .returned (.tuple #[v, .int .i64 n]) := by rw [h]
set_option maxRecDepth 100000 in
set_option maxHeartbeats 2000000 in
theorem refScan (s : ByteArray) (w : World) (hs : s.size ≤ 100000000) :
    Calls Try.prog 18 #[.string s] w fun e w' => ∃ v rs l, Hid (ScanTo s.data.toList rs l) ∧ Hid (scanStep l = none) ∧ e = .returned (.tuple #[v, .int .i64 ((s.size : Int) - l.length)]) ∧ OwnR w' w.heap.size v rs ∧ Below w.heap.size w w' := by
  have hsl : Hid (s.data.toList.length = s.size) := len_data s
  have hs' : Hid (s.size ≤ maxLen) := by show _ ≤ _; unfold maxLen; omega
  have hs1 : Hid (s.size ≤ 100000000) := hs
  go_enter Try.func18, Try.ntmps18
  go_wp2_with fail
  go_loopw [4, 5] (fun v at_ wr => ∃ rs, ∃ p : Nat, Hid (ScanTo s.data.toList rs (s.data.toList.drop p)) ∧ p ≤ s.size ∧ at_ = .int .i64 p ∧ OwnR wr w.heap.size v rs ∧ Below w.heap.size w wr) (fun _ at_ _ => s.size - (intOf at_).toNat)
  case atStart => exact ⟨[], 0, rfl, Nat.zero_le _, rfl, OwnR.nil _ _, Below.refl _ _⟩
  case round =>
    obtain ⟨rs, p, HS, hp, rfl, ho, hb⟩ := hrel
    have hbs := hb.size
    have hend : Hid (((s.data.toList.drop p).length : Int) = (s.size : Int) - p) := by show _ = _; rw [List.length_drop, hsl.out]; omega
    by_cases h3 : p + 3 ≤ s.size
    · go_wp2_with fail
      refine (rdAt s _ _ 3 _ hs'.out (by omega) (by omega) rfl (by omega)).mono ?_
      rintro e w1 ⟨n, hn, rfl, Hn, rfl⟩
      have HN : Hid (rd s.data.toList p 3 = n) := Hn.out
      clear Hn
      have HBk : Hid (blockL (s.data.toList.drop p) false = if s.data.toList.length < p + 3 + n then ([], [], true) else ((s.data.toList.drop (p + 3)).take n, s.data.toList.drop (p + 3 + n), false)) := block_at _ p n (by rw [hsl.out]; omega) HN.out
      by_cases h4 : p + 3 + n ≤ s.size
      · have HX : Hid ((s.extract (p + 3) (p + 3 + n)).data.toList = (s.data.toList.drop (p + 3)).take n) := by show _ = _; rw [extract_list, show p + 3 + n - (p + 3) = n by omega]
        go_wp2_with fail
        refine (docDecode (s.extract (p + 3) (p + 3 + n)) _ (by rw [← len_data, HX.out, List.length_take, List.length_drop, hsl.out]; omega)).mono ?_
        rintro e w2 ⟨q, er, HQ, rfl, hb2⟩
        obtain ⟨x2, rfl⟩ := Below.ext hb2
        clear hb2
        have HQ' : Hid ((q, er) = decR (blockL (s.data.toList.drop p) false).1) := by show _ = _; rw [HQ.out, HX.out, HBk.out, if_neg (by rw [hsl.out]; omega)]
        clear HQ
        by_cases he : er = 0
        · subst he
          have HN2 : Hid (scanStep (s.data.toList.drop p) = some (q, s.data.toList.drop (p + 3 + n))) := by
            show _ = _; unfold scanStep; rw [← HQ'.out, if_pos rfl, HBk.out, if_neg (by rw [hsl.out]; omega)]
          have HS2 : Hid (ScanTo s.data.toList (rs ++ [q]) (s.data.toList.drop (p + 3 + n))) := ScanTo.snoc _ _ _ _ _ HS.out HN2.out
          have hn1 : rs.length ≤ 100000000000 := by have h1 := ScanTo.len _ _ _ HS.out; have h2 := hsl.out; have h3 := hs1.out; omega
          go_wp2_with (at_builtin; go_must (refine wpR_new rfl _ _ rfl w.heap.size u4 rs rfl (by repeat (first | with_reducible exact ho | with_reducible refine OwnR.alloc ?_ _ | with_reducible refine OwnR.ext ?_ _)) q _ rfl (new_cells' (by simp [go_sem]) rfl) hn1 (by simp [go_sem]; omega) ?_; intro v' w3 ho3 hg3; have hb3 : Below w.heap.size w w3 := Below.grown (by repeat (first | with_reducible exact hb | with_reducible refine Gr.ext ?_ _ | with_reducible refine Gr.alloc ?_ _)) hg3.g (by simp [go_sem]; omega) (fun k hk => by have := (ho.lt hk).1; omega)))
          refine ⟨⟨rs ++ [q], p + 3 + n, HS2, h4, val_int (by omega), ho3, hb3⟩, ?_⟩
          simp only [intOf]
          omega
        · have HN2 : Hid (scanStep (s.data.toList.drop p) = none) := by show _ = _; unfold scanStep; rw [← HQ'.out, if_neg he]
          go_wp2_with fail
          go_ret2
          exact ⟨u4, rs, _, HS, HN2, ret2_int (by rw [hend.out]; omega), (by repeat (first | with_reducible exact ho | with_reducible refine OwnR.alloc ?_ _ | with_reducible refine OwnR.ext ?_ _)), (by repeat (first | with_reducible exact hb | with_reducible refine Gr.ext ?_ _ | with_reducible refine Gr.alloc ?_ _))⟩
      · have HE : Hid (scanStep (s.data.toList.drop p) = none) := by
          show _ = _
          apply scan_short'
          rw [HBk.out, if_pos (by rw [hsl.out]; omega)]
        go_wp2_with fail
        go_ret2
        exact ⟨u4, rs, _, HS, HE, ret2_int (by rw [hend.out]; omega), ho, hb⟩
    · have HE : Hid (scanStep (s.data.toList.drop p) = none) := scan_end _ p (by rw [hsl.out]; omega)
      go_wp2_with fail
      go_ret2
      exact ⟨u4, rs, _, HS, HE, ret2_int (by rw [hend.out]; omega), ho, hb⟩
end Go.Proofs.Ytcbbnmodjnnbeaa
