/- The walk of the document's Scan. -/
import Derived.Test.YthoaomaknegblaaScanW
import Derived.Deep.DeepMust
set_option linter.unusedSimpArgs false
set_option linter.unusedVariables false
namespace Go.Proofs.Ythoaomaknegblaa
open Go.RowKit
attribute [local go_sem] World.ext_ext

theorem rd_drop (l : List UInt8) (p : Nat) : ∀ k : Nat, k ≤ 3 → rd ((l.drop p).take 3) 0 k = rd l p k
  | 0, _ => rfl
  | k + 1, h => by
    rw [rd, rd, rd_drop l p k (by omega), Nat.zero_add, List.getElem?_take_of_lt (by omega), List.getElem?_drop]
theorem block_at (l : List UInt8) (p n : Nat) (h3 : p + 3 ≤ l.length) (hn : rd l p 3 = n) :
    blockL (l.drop p) false = if l.length < p + 3 + n then ([], [], true) else ((l.drop (p + 3)).take n, l.drop (p + 3 + n), false) := by
  have h1 : takeL (l.drop p) false 3 = ((l.drop p).take 3, l.drop (p + 3), false) := by
    unfold takeL; rw [if_neg (by simp; omega), List.drop_drop]
  have h2 : numL (l.drop p) false = (n, l.drop (p + 3), false) := by
    unfold numL; rw [h1, if_neg (by simp)]; simp only; rw [rd_drop l p 3 (by omega), hn]
  unfold blockL
  rw [h2]
  simp only
  unfold takeL
  rw [List.length_drop, List.drop_drop]
  by_cases h : l.length < p + 3 + n
  · rw [if_pos (by omega), if_pos h]
  · rw [if_neg (by omega), if_neg h]
theorem scan_short' (l : List UInt8) (h : (blockL l false).1 = []) : scanStep l = none := by
  unfold scanStep
  rw [h, decR_nil, if_neg (by omega)]
theorem scan_end (l : List UInt8) (p : Nat) (h : l.length < p + 3) : scanStep (l.drop p) = none := by
  apply scan_short'
  unfold blockL
  have h1 : numL (l.drop p) false = (0, [], true) := by
    have h0 : takeL (l.drop p) false 3 = ([], [], true) := by unfold takeL; rw [if_pos (by rw [List.length_drop]; omega)]
    unfold numL; rw [h0]; rfl
  rw [h1]
  unfold takeL
  simp

theorem ret2_int {v : Value} {m n : Int} (h : m = n) : Ending.returned (.tuple #[v, .int .i64 m]) = .returned (.tuple #[v, .int .i64 n]) := by rw [h]
set_option maxRecDepth 100000 in
set_option maxHeartbeats 2000000 in
theorem refScan (s : ByteArray) (w : World) (hs : s.size ≤ 100000000) :
    Calls Try.prog 16 #[.string s] w fun e w' => ∃ v rs l, Hid (ScanTo s.data.toList rs l) ∧ Hid (scanStep l = none) ∧ e = .returned (.tuple #[v, .int .i64 ((s.size : Int) - l.length)]) ∧ OwnR w' w.heap.size v rs ∧ Below w.heap.size w w' := by
  have hsl : Hid (s.data.toList.length = s.size) := len_data s
  have hs' : Hid (s.size ≤ maxLen) := by show _ ≤ _; unfold maxLen; omega
  have hs1 : Hid (s.size ≤ 100000000) := hs
  go_enter Try.func16, Try.ntmps16
  go_wp2_with fail
  go_loopw [4, 5] (fun v at_ wr => ∃ rs, ∃ p : Nat, Hid (ScanTo s.data.toList rs (s.data.toList.drop p)) ∧ p ≤ s.size ∧ at_ = .int .i64 p ∧ OwnR wr w.heap.size v rs ∧ Below w.heap.size w wr) (fun _ at_ _ => s.size - (intOf at_).toNat)
  case atStart => exact ⟨[], 0, rfl, Nat.zero_le _, rfl, OwnR.nil _ _, Below.refl _ _⟩
  case round =>
    obtain ⟨rs, p, HS, hp, rfl, ho, hb⟩ := hrel
    have hbs := hb.size
    have hend : Hid (((s.data.toList.drop p).length : Int) = (s.size : Int) - p) := by show _ = _; rw [List.length_drop, hsl.out]; omega
    by_cases h3 : p + 3 ≤ s.size
    · go_wp2_with fail
      refine (rdAt s _ _ 3 _ hs'.out (by omega) (by omega) rfl (by omega)).mono ?_
      rintro e w1 ⟨n, hn, rfl, Hn, rfl⟩
      have HN : Hid (rd s.data.toList p 3 = n) := Hn.out
      clear Hn
      have HBk : Hid (blockL (s.data.toList.drop p) false = if s.data.toList.length < p + 3 + n then ([], [], true) else ((s.data.toList.drop (p + 3)).take n, s.data.toList.drop (p + 3 + n), false)) := block_at _ p n (by rw [hsl.out]; omega) HN.out
      by_cases h4 : p + 3 + n ≤ s.size
      · have HX : Hid ((s.extract (p + 3) (p + 3 + n)).data.toList = (s.data.toList.drop (p + 3)).take n) := by show _ = _; rw [extract_list, show p + 3 + n - (p + 3) = n by omega]
        go_wp2_with fail
        refine (docDecode (s.extract (p + 3) (p + 3 + n)) _ (by rw [← len_data, HX.out, List.length_take, List.length_drop, hsl.out]; omega)).mono ?_
        rintro e w2 ⟨q, er, HQ, rfl, hb2⟩
        obtain ⟨x2, rfl⟩ := Below.ext hb2
        clear hb2
        have HQ' : Hid ((q, er) = decR (blockL (s.data.toList.drop p) false).1) := by show _ = _; rw [HQ.out, HX.out, HBk.out, if_neg (by rw [hsl.out]; omega)]
        clear HQ
        by_cases he : er = 0
        · subst he
          have HN2 : Hid (scanStep (s.data.toList.drop p) = some (q, s.data.toList.drop (p + 3 + n))) := by
            show _ = _; unfold scanStep; rw [← HQ'.out, if_pos rfl, HBk.out, if_neg (by rw [hsl.out]; omega)]
          have HS2 : Hid (ScanTo s.data.toList (rs ++ [q]) (s.data.toList.drop (p + 3 + n))) := ScanTo.snoc _ _ _ _ _ HS.out HN2.out
          have hn1 : rs.length ≤ 100000000000 := by have h1 := ScanTo.len _ _ _ HS.out; have h2 := hsl.out; have h3 := hs1.out; omega
          go_wp2_with (at_builtin; go_must (refine wpR_new rfl _ _ rfl w.heap.size u4 rs rfl (by repeat (first | with_reducible exact ho | with_reducible refine OwnR.alloc ?_ _ | with_reducible refine OwnR.ext ?_ _)) q _ rfl (new_cells' (by simp [go_sem]) rfl) hn1 (by simp [go_sem]; omega) ?_; intro v' w3 ho3 hg3; have hb3 : Below w.heap.size w w3 := Below.grown (by repeat (first | with_reducible exact hb | with_reducible refine Gr.ext ?_ _ | with_reducible refine Gr.alloc ?_ _)) hg3.g (by simp [go_sem]; omega) (fun k hk => by have := (ho.lt hk).1; omega)))
          refine ⟨⟨rs ++ [q], p + 3 + n, HS2, h4, val_int (by omega), ho3, hb3⟩, ?_⟩
          simp only [intOf]
          omega
        · have HN2 : Hid (scanStep (s.data.toList.drop p) = none) := by show _ = _; unfold scanStep; rw [← HQ'.out, if_neg he]
          go_wp2_with fail
          go_ret2
          exact ⟨u4, rs, _, HS, HN2, ret2_int (by rw [hend.out]; omega), (by repeat (first | with_reducible exact ho | with_reducible refine OwnR.alloc ?_ _ | with_reducible refine OwnR.ext ?_ _)), (by repeat (first | with_reducible exact hb | with_reducible refine Gr.ext ?_ _ | with_reducible refine Gr.alloc ?_ _))⟩
      · have HE : Hid (scanStep (s.data.toList.drop p) = none) := by
          show _ = _
          apply scan_short'
          rw [HBk.out, if_pos (by rw [hsl.out]; omega)]
        go_wp2_with fail
        go_ret2
        exact ⟨u4, rs, _, HS, HE, ret2_int (by rw [hend.out]; omega), ho, hb⟩
    · have HE : Hid (scanStep (s.data.toList.drop p) = none) := scan_end _ p (by rw [hsl.out]; omega)
      go_wp2_with fail
      go_ret2
      exact ⟨u4, rs, _, HS, HE, ret2_int (by rw [hend.out]; omega), ho, hb⟩
end Go.Proofs.Ythoaomaknegblaa
