/- A text of a record with one byte turned, one more or one less is a text of no record (plain). -/
import Derived.Test.YthoaomaknegblaaPure2
set_option linter.unusedSimpArgs false
set_option linter.unusedVariables false
namespace Go.Proofs.Ythoaomaknegblaa
open Go.RowKit

theorem rec_app (r : Rec) (m : List UInt8) (h : r.may = true) : recLd (bodyL r ++ m) false = (r, m, false) := by
  rcases rec_kind r h with hk | hk | hk
  · obtain ⟨a1, a2, a3, a4, a5, a6, a7, a8, a9, a10, a11⟩ := rec_bd1 r h hk
    obtain ⟨kind, gen, index, term, vote, many, cmd, data⟩ := r
    simp only at *
    subst hk a10 a11
    obtain ⟨ng, rfl⟩ := Int.eq_ofNat_of_zero_le (show 0 ≤ gen by omega)
    obtain ⟨ni, rfl⟩ := Int.eq_ofNat_of_zero_le a3
    obtain ⟨nt, rfl⟩ := Int.eq_ofNat_of_zero_le a5
    obtain ⟨nm, rfl⟩ := Int.eq_ofNat_of_zero_le a7
    simp only [bodyL, if_true, Int.toNat_natCast, List.append_assoc]
    unfold recLd
    rw [byteL_fwd 1 _ (by omega)]; simp only [if_true]
    unfold recLd1; simp only
    rw [numL_fwd ng _ (by omega)]; simp only
    rw [numL_fwd ni _ (by omega)]; simp only
    rw [numL_fwd nt _ (by omega)]; simp only
    rw [numL_fwd nm _ (by omega)]; simp only
    rw [← len_data data]
    rw [blockL_fwd data.data.toList m (by rw [len_data]; omega)]
    simp only [B_eta]
    rfl
  · obtain ⟨a1, a2, a3, a4⟩ := rec_bd2 r h hk
    have hz : r = ⟨2, 0, 0, r.term, r.vote, 0, Cmd.zero, ByteArray.empty⟩ := by
      simp [Rec.may, hk, Cmd.same_iff, noB] at h
      obtain ⟨kind, gen, index, term, vote, many, cmd, data⟩ := r
      simp only at *
      simp [h, hk]
    rw [hz]
    generalize r.term = term at *
    generalize r.vote = vote at *
    clear hz hk h
    obtain ⟨nt, rfl⟩ := Int.eq_ofNat_of_zero_le a1
    obtain ⟨nv, hv⟩ := Int.eq_ofNat_of_zero_le (show 0 ≤ vote + 1 by omega)
    have hv' : vote = (nv : Int) - 1 := by omega
    subst hv'
    simp only [bodyL, Int.toNat_natCast, hv, List.append_assoc]
    rw [if_neg (by omega), if_pos trivial]
    simp only [List.append_assoc]
    unfold recLd
    rw [byteL_fwd 2 _ (by omega)]; simp only
    rw [if_neg (by omega), if_pos trivial]
    unfold recLd2; simp only
    rw [numL_fwd nt _ (by omega)]; simp only
    rw [byteL_fwd nv m (by omega)]
    rfl
  · obtain ⟨a1, a2, a3, a4, a5⟩ := rec_bd3 r h hk
    have hc := cmd_bd r.cmd a5
    have hz : r = ⟨3, 0, r.index, r.term, 0, 0, r.cmd, ByteArray.empty⟩ := by
      simp [Rec.may, hk, noB] at h
      obtain ⟨kind, gen, index, term, vote, many, cmd, data⟩ := r
      simp only at *
      simp [h, hk]
    rw [hz]
    generalize r.term = term at *
    generalize r.index = index at *
    generalize r.cmd = cmd at *
    clear hz hk h
    obtain ⟨nt, rfl⟩ := Int.eq_ofNat_of_zero_le a3
    obtain ⟨ni, rfl⟩ := Int.eq_ofNat_of_zero_le (show 0 ≤ index by omega)
    simp only [bodyL, Int.toNat_natCast, List.append_assoc]
    rw [if_neg (by omega), if_neg (by omega)]
    simp only [List.append_assoc]
    unfold recLd
    rw [byteL_fwd 3 _ (by omega)]; simp only
    rw [if_neg (by omega), if_neg (by omega), if_pos trivial]
    unfold recLd3; simp only
    rw [numL_fwd ni _ (by omega)]; simp only
    rw [numL_fwd nt _ (by omega)]; simp only
    rw [cmd_fwd cmd m hc]
    rfl

theorem body_free (r r' : Rec) (m : List UInt8) (h : r.may = true) (h' : r'.may = true) (e : bodyL r' = bodyL r ++ m) : m = [] := by
  have h1 := rec_app r m h
  rw [← e] at h1
  rw [rec_fwd r' h'] at h1
  injection h1 with _ h2
  injection h2 with h3 _
  exact h3.symm
theorem enc_longer (r r' : Rec) (x : UInt8) (h : r.may = true) (h' : r'.may = true) : encL r' ≠ encL r ++ [x] := by
  intro e
  unfold encL at e
  rw [List.append_assoc] at e
  have hl := congrArg List.length e
  simp only [List.length_append, be_length, List.length_cons, List.length_nil] at hl
  obtain ⟨m, h1, h2⟩ : ∃ m, bodyL r' = bodyL r ++ m ∧ m.length = 1 := by
    rcases List.append_eq_append_iff.mp e with ⟨a, h1, h2⟩ | ⟨a, h1, h2⟩
    · have := congrArg List.length h1
      simp only [List.length_append] at this
      omega
    · exact ⟨a, h1, by have := congrArg List.length h1; simp only [List.length_append] at this; omega⟩
  rw [body_free r r' m h h' h1] at h2
  cases h2
theorem sumPair_fst (l : List UInt8) : ∀ p : Nat × Nat, (l.foldl By.sumStep p).1 % 65521 = (p.1 + (l.map UInt8.toNat).sum) % 65521 := by
  induction l with
  | nil => intro p; simp
  | cons c l ih =>
    intro p
    rw [List.foldl_cons, ih]
    simp only [List.map_cons, List.sum_cons, By.sumStep]
    omega
theorem sum_fst (l : List UInt8) : By.sum l % 65536 % 65521 = (1 + (l.map UInt8.toNat).sum) % 65521 := by
  have h := sumPair_fst l (1, 0)
  have hl := By.foldl_lt l (1, 0) (by omega) (by omega)
  unfold By.sum By.sumPair
  omega
theorem be4_inj (m n : Nat) (hm : m < 4294967296) (hn : n < 4294967296) (e : be 4 m = be 4 n) : m = n := by
  simp only [be, List.nil_append, List.append_nil, List.cons_append, List.cons.injEq, and_true] at e
  obtain ⟨h1, h2, h3, h4⟩ := e
  have g1 := congrArg UInt8.toNat h1
  have g2 := congrArg UInt8.toNat h2
  have g3 := congrArg UInt8.toNat h3
  have g4 := congrArg UInt8.toNat h4
  simp only [UInt8.toNat_ofNat'] at g1 g2 g3 g4
  omega
theorem sum_turned (P Q : List UInt8) (c d : UInt8) (e : By.sum (P ++ c :: Q) = By.sum (P ++ d :: Q)) : c = d := by
  have h1 := sum_fst (P ++ c :: Q)
  have h2 := sum_fst (P ++ d :: Q)
  rw [e, h2] at h1
  simp only [List.map_append, List.map_cons, List.sum_append, List.sum_cons] at h1
  have hc := UInt8.toNat_lt c
  have hd := UInt8.toNat_lt d
  exact UInt8.toNat_inj.mp (by omega)
theorem enc_turned (r r' : Rec) (P Q : List UInt8) (c d : UInt8) (e : encL r = P ++ c :: Q) (e' : encL r' = P ++ d :: Q) : c = d := by
  unfold encL at e e'
  have hl : (bodyL r).length = (bodyL r').length := by
    have h1 := congrArg List.length e
    have h2 := congrArg List.length e'
    simp only [List.length_append, be_length, List.length_cons] at h1 h2
    omega
  by_cases hp : P.length < (bodyL r).length
  · have hb := congrArg (List.take (bodyL r).length) e
    have hs := congrArg (List.drop (bodyL r).length) e
    have hb' := congrArg (List.take (bodyL r').length) e'
    have hs' := congrArg (List.drop (bodyL r').length) e'
    obtain ⟨k, hk⟩ : ∃ k, (bodyL r).length = P.length + (k + 1) := ⟨(bodyL r).length - P.length - 1, by omega⟩
    rw [List.take_left, hk, List.take_length_add_append, List.take_succ_cons] at hb
    rw [List.take_left, ← hl, hk, List.take_length_add_append, List.take_succ_cons] at hb'
    rw [List.drop_left, hk, List.drop_length_add_append, List.drop_succ_cons] at hs
    rw [List.drop_left, ← hl, hk, List.drop_length_add_append, List.drop_succ_cons, ← hs] at hs'
    have := be4_inj _ _ (By.sum_lt _) (By.sum_lt _) hs'
    rw [hb, hb'] at this
    exact (sum_turned _ _ _ _ this).symm
  · have hb := congrArg (List.take (bodyL r).length) e
    have hb' := congrArg (List.take (bodyL r').length) e'
    rw [List.take_left, List.take_append_of_le_length (by omega)] at hb
    rw [List.take_left, ← hl, List.take_append_of_le_length (by omega)] at hb'
    have heq : bodyL r' = bodyL r := hb'.trans hb.symm
    rw [heq, e] at e'
    have := List.append_cancel_left e'
    injection this
theorem decR_bad (L : List UInt8) (h : ∀ r, Rec.may r = true → encL r ≠ L) : decR L = (Rec.zero, 10) := by
  unfold decR; rw [if_neg (fun hh => h _ hh.1 hh.2)]
theorem decR_longer (r : Rec) (x : UInt8) (h : r.may = true) : decR (encL r ++ [x]) = (Rec.zero, 10) := decR_bad _ fun r' h' => enc_longer r r' x h h'
theorem decR_shorter (r : Rec) (h : r.may = true) (L : List UInt8) (x : UInt8) (hL : encL r = L ++ [x]) : decR L = (Rec.zero, 10) := decR_bad _ fun r' h' e => enc_longer r' r x h' h (by rw [e]; exact hL)
theorem decR_turned (r : Rec) (P Q : List UInt8) (c d : UInt8) (e : encL r = P ++ c :: Q) (hd : c ≠ d) : decR (P ++ d :: Q) = (Rec.zero, 10) := decR_bad _ fun r' _ e' => hd (enc_turned r r' P Q c d e e')
end Go.Proofs.Ythoaomaknegblaa
