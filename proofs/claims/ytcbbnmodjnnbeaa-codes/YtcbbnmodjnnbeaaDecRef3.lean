/- The document's own Decode. -/
import Derived.Test.YtcbbnmodjnnbeaaRead
set_option linter.unusedSimpArgs false
set_option linter.unusedVariables false
namespace Go.Proofs.Ytcbbnmodjnnbeaa
open Go.RowKit

def refRd (s : List UInt8) : Rec :=
  if rd s 0 1 = 1 then ⟨1, rd s 1 3, rd s 4 3, rd s 7 3, 0, rd s 10 3, Cmd.zero, B (cutL s 16 (rd s 13 3))⟩
  else if rd s 0 1 = 2 then ⟨2, 0, 0, rd s 1 3, (rd s 4 1 : Int) - 1, 0, Cmd.zero, B []⟩
  else if rd s 0 1 = 3 then ⟨3, 0, rd s 1 3, rd s 4 3, 0, 0, cmdRd s 7, B []⟩
  else ⟨rd s 0 1, 0, 0, 0, 0, 0, Cmd.zero, B []⟩
def decR (s : List UInt8) : Rec × Int := if (refRd s).may = true ∧ encL (refRd s) = s then (refRd s, 0) else (Rec.zero, 10)
def encR (r : Rec) : ByteArray × Int := if r.may = true then (B (encL r), 0) else (B [], 2)

theorem toList_cmp (t s : ByteArray) : (t.toList == s.toList) = (t == s) := (beq_toListBytes t s).symm
theorem decA {s : ByteArray} {r : Rec} {t : ByteArray} {er : Int} (hr : refRd s.data.toList = r) (HT : Hid ((t, er) = encR r)) (h0 : er = 0) (h : (!t.toList == s.toList) = true) : (Rec.zero, (10 : Int)) = decR s.data.toList := by
  have h1 : (t, er) = encR r := HT
  unfold decR; rw [hr]
  by_cases hm : r.may = true
  · simp [encR, hm] at h1
    rw [if_neg]
    rintro ⟨_, he⟩
    rw [h1.1, he, B_eta, toList_cmp] at h
    simp [(beq_bytes s s).2 rfl] at h
  · rw [if_neg (fun h => hm h.1)]
theorem decB {s : ByteArray} {r : Rec} {t : ByteArray} {er : Int} (hr : refRd s.data.toList = r) (HT : Hid ((t, er) = encR r)) (h0 : er = 0) (h : (!t.toList == s.toList) = false) : (r, (0 : Int)) = decR s.data.toList := by
  have h1 : (t, er) = encR r := HT
  unfold decR; rw [hr]
  by_cases hm : r.may = true
  · simp [encR, hm] at h1
    rw [if_pos]
    refine ⟨hm, ?_⟩
    rw [toList_cmp] at h
    have h2 : (t == s) = true := by simpa using h
    rw [beq_bytes] at h2
    rw [← h2, h1.1]
    rfl
  · simp [encR, hm] at h1
    omega
theorem decC {s : ByteArray} {r : Rec} {t : ByteArray} {er : Int} (hr : refRd s.data.toList = r) (HT : Hid ((t, er) = encR r)) (h0 : ¬ er = 0) : (Rec.zero, (10 : Int)) = decR s.data.toList := by
  have h1 : (t, er) = encR r := HT
  unfold decR; rw [hr]
  by_cases hm : r.may = true
  · simp [encR, hm] at h1; omega
  · rw [if_neg (fun h => hm h.1)]

theorem refEncodeAny (r : Rec) (w : World) :
    Calls Try.prog 15 #[(.agg #[.int .i64 r.kind, .int .i64 r.gen, .int .i64 r.index, .int .i64 r.term, .int .i64 r.vote, .int .i64 r.many, .int .i64 r.cmd.kind, .string r.cmd.key, .string r.cmd.val, .string r.cmd.old, .int .i64 r.cmd.rev, .int .i64 r.cmd.ses, .int .i64 r.cmd.seq, .string r.data])] w fun e w' => ∃ t er, e = .returned (.tuple #[.string t, .int .i64 er]) ∧ Hid ((t, er) = encR r) ∧ Below w.heap.size w w' := by
  cases hm : r.may
  · exact (refEncode_no r w hm).mono fun e w' ⟨he, hb⟩ => ⟨_, _, he, by show _ = _; simp [encR, hm], hb⟩
  · exact (refEncode r w hm).mono fun e w' ⟨he, hb⟩ => ⟨_, _, he, by show _ = _; simp [encR, hm], hb⟩
theorem refEncodeAny' (k g i t v m ck cr cs cq : Int) (a b c d : ByteArray) (w : World) :
    Calls Try.prog 15 #[.agg #[.int .i64 k, .int .i64 g, .int .i64 i, .int .i64 t, .int .i64 v, .int .i64 m, .int .i64 ck, .string a, .string b, .string c, .int .i64 cr, .int .i64 cs, .int .i64 cq, .string d]] w
      fun e w' => ∃ t' er, e = .returned (.tuple #[.string t', .int .i64 er]) ∧ Hid ((t', er) = encR ⟨k, g, i, t, v, m, ⟨ck, a, b, c, cr, cs, cq⟩, d⟩) ∧ Below w.heap.size w w' :=
  refEncodeAny ⟨k, g, i, t, v, m, ⟨ck, a, b, c, cr, cs, cq⟩, d⟩ w


set_option maxRecDepth 100000 in
set_option maxHeartbeats 1000000 in
theorem refDecode1 (s : ByteArray) (w : World) (hs : s.size ≤ maxLen) (hk : rd s.data.toList 0 1 = 1) :
    Calls Try.prog 17 #[.string s] w fun e w' => ∃ q er, (q, er) = decR s.data.toList ∧ e = .returned (.tuple #[(.agg #[.int .i64 q.kind, .int .i64 q.gen, .int .i64 q.index, .int .i64 q.term, .int .i64 q.vote, .int .i64 q.many, .int .i64 q.cmd.kind, .string q.cmd.key, .string q.cmd.val, .string q.cmd.old, .int .i64 q.cmd.rev, .int .i64 q.cmd.ses, .int .i64 q.cmd.seq, .string q.data]), .int .i64 er]) ∧ Below w.heap.size w w' := by
  have hs' : Hid (s.size ≤ maxLen) := hs
  clear hs
  go_enter Try.func17, Try.ntmps17
  go_wp2_with fail
  refine (rdAt s _ _ 1 _ hs'.out (by omega) (by omega) rfl (by omega)).mono ?_
  rintro e w1 ⟨kind, bk, rfl, Hkind, rfl⟩
  have hk1 : kind = 1 := by rw [← Hkind.out]; exact hk
  subst hk1
  go_wp2_with fail
  refine (rdAt s _ _ 3 _ hs'.out (by omega) (by omega) rfl (by omega)).mono ?_
  rintro e w1 ⟨gen, bg, rfl, Hgen, rfl⟩
  go_wp2_with fail
  refine (rdAt s _ _ 3 _ hs'.out (by omega) (by omega) rfl (by omega)).mono ?_
  rintro e w1 ⟨index, bi, rfl, Hindex, rfl⟩
  go_wp2_with fail
  refine (rdAt s _ _ 3 _ hs'.out (by omega) (by omega) rfl (by omega)).mono ?_
  rintro e w1 ⟨term, bt, rfl, Hterm, rfl⟩
  go_wp2_with fail
  refine (rdAt s _ _ 3 _ hs'.out (by omega) (by omega) rfl (by omega)).mono ?_
  rintro e w1 ⟨many, bm, rfl, Hmany, rfl⟩
  go_wp2_with fail
  refine (rdAt s _ _ 3 _ hs'.out (by omega) (by omega) rfl (by omega)).mono ?_
  rintro e w1 ⟨n, bn, rfl, Hn, rfl⟩
  go_wp2_with fail
  refine (cutAt s _ _ _ hs'.out (by omega) (by omega) (by omega) (by omega)).mono ?_
  rintro e w1 ⟨data, rfl, Hdata, rfl⟩
  have HR : Hid (refRd s.data.toList = ⟨1, gen, index, term, 0, many, ⟨0, ⟨#[]⟩, ⟨#[]⟩, ⟨#[]⟩, 0, 0, 0⟩, data⟩) := by
    show _ = _
    go_light
    have e1 : rd s.data.toList 1 3 = gen := Hgen.out
    have e2 : rd s.data.toList 4 3 = index := Hindex.out
    have e3 : rd s.data.toList 7 3 = term := Hterm.out
    have e4 : rd s.data.toList 10 3 = many := Hmany.out
    have e5 : rd s.data.toList 13 3 = n := Hn.out
    have e6 : data = B (cutL s.data.toList 16 n) := Hdata.out
    simp only [refRd, hk, if_true, e1, e2, e3, e4, e5, ← e6]
    rfl
  go_wp2_with fail
  refine (refEncodeAny' _ _ _ _ _ _ _ _ _ _ _ _ _ _ _).mono ?_
  rintro e w1 ⟨t, er, rfl, HT, hb1⟩
  obtain ⟨x1, rfl⟩ := Below.ext hb1
  clear hb1
  go_wp2_with fail
  · rename_i h0 h1
    exact bodyPost_ret (v := .tuple #[.agg #[.int .i64 0, .int .i64 0, .int .i64 0, .int .i64 0, .int .i64 0, .int .i64 0, .int .i64 0, .string ⟨#[]⟩, .string ⟨#[]⟩, .string ⟨#[]⟩, .int .i64 0, .int .i64 0, .int .i64 0, .string ⟨#[]⟩], .int .i64 10]) (by simp [results, Try.results17, go_sem]) rfl ⟨Rec.zero, 10, decA HR.out HT h0 h1, rfl, (by repeat (first | exact Below.refl _ _ | assumption | refine Gr.ext ?_ _ | refine Gr.alloc ?_ _ | refine Gr.drew ?_ | (refine Gr.set ?_ (by first | (simp; done) | (simp; omega)) _)))⟩
  · rename_i h0 h1
    exact bodyPost_ret (v := .tuple #[.agg #[.int .i64 1, .int .i64 gen, .int .i64 index, .int .i64 term, .int .i64 0, .int .i64 many, .int .i64 0, .string ⟨#[]⟩, .string ⟨#[]⟩, .string ⟨#[]⟩, .int .i64 0, .int .i64 0, .int .i64 0, .string data], .int .i64 0]) (by simp [results, Try.results17, go_sem]) rfl ⟨_, 0, decB HR.out HT h0 h1, rfl, (by repeat (first | exact Below.refl _ _ | assumption | refine Gr.ext ?_ _ | refine Gr.alloc ?_ _ | refine Gr.drew ?_ | (refine Gr.set ?_ (by first | (simp; done) | (simp; omega)) _)))⟩
  · rename_i h0
    exact bodyPost_ret (v := .tuple #[.agg #[.int .i64 0, .int .i64 0, .int .i64 0, .int .i64 0, .int .i64 0, .int .i64 0, .int .i64 0, .string ⟨#[]⟩, .string ⟨#[]⟩, .string ⟨#[]⟩, .int .i64 0, .int .i64 0, .int .i64 0, .string ⟨#[]⟩], .int .i64 10]) (by simp [results, Try.results17, go_sem]) rfl ⟨Rec.zero, 10, decC HR.out HT h0, rfl, (by repeat (first | exact Below.refl _ _ | assumption | refine Gr.ext ?_ _ | refine Gr.alloc ?_ _ | refine Gr.drew ?_ | (refine Gr.set ?_ (by first | (simp; done) | (simp; omega)) _)))⟩
end Go.Proofs.Ytcbbnmodjnnbeaa
/- The document's own Decode: another kind. -/
set_option linter.unusedSimpArgs false
set_option linter.unusedVariables false
namespace Go.Proofs.Ytcbbnmodjnnbeaa
open Go.RowKit

set_option maxRecDepth 100000 in
set_option maxHeartbeats 1000000 in
theorem refDecode2 (s : ByteArray) (w : World) (hs : s.size ≤ maxLen) (hk : rd s.data.toList 0 1 = 2) :
    Calls Try.prog 17 #[.string s] w fun e w' => ∃ q er, (q, er) = decR s.data.toList ∧ e = .returned (.tuple #[(.agg #[.int .i64 q.kind, .int .i64 q.gen, .int .i64 q.index, .int .i64 q.term, .int .i64 q.vote, .int .i64 q.many, .int .i64 q.cmd.kind, .string q.cmd.key, .string q.cmd.val, .string q.cmd.old, .int .i64 q.cmd.rev, .int .i64 q.cmd.ses, .int .i64 q.cmd.seq, .string q.data]), .int .i64 er]) ∧ Below w.heap.size w w' := by
  have hs' : Hid (s.size ≤ maxLen) := hs
  clear hs
  go_enter Try.func17, Try.ntmps17
  go_wp2_with fail
  refine (rdAt s _ _ 1 _ hs'.out (by omega) (by omega) rfl (by omega)).mono ?_
  rintro e w1 ⟨kind, bk, rfl, Hkind, rfl⟩
  have hk1 : kind = 2 := by rw [← Hkind.out]; exact hk
  subst hk1
  go_wp2_with fail
  refine (rdAt s _ _ 3 _ hs'.out (by omega) (by omega) rfl (by omega)).mono ?_
  rintro e w1 ⟨term, bt, rfl, Hterm, rfl⟩
  go_wp2_with fail
  refine (rdAt s _ _ 1 _ hs'.out (by omega) (by omega) rfl (by omega)).mono ?_
  rintro e w1 ⟨v, bv, rfl, Hv, rfl⟩
  have HR : Hid (refRd s.data.toList = ⟨2, 0, 0, term, (v : Int) - 1, 0, ⟨0, ⟨#[]⟩, ⟨#[]⟩, ⟨#[]⟩, 0, 0, 0⟩, ⟨#[]⟩⟩) := by
    show _ = _
    go_light
    have e1 : rd s.data.toList 1 3 = term := Hterm.out
    have e2 : rd s.data.toList 4 1 = v := Hv.out
    unfold refRd
    rw [if_neg (by omega), if_pos hk, e1, e2]
    rfl
  go_wp2_with fail
  refine (refEncodeAny' _ _ _ _ _ _ _ _ _ _ _ _ _ _ _).mono ?_
  rintro e w1 ⟨t, er, rfl, HT, hb1⟩
  obtain ⟨x1, rfl⟩ := Below.ext hb1
  clear hb1
  go_wp2_with fail
  · rename_i h0 h1
    exact bodyPost_ret (v := .tuple #[.agg #[.int .i64 0, .int .i64 0, .int .i64 0, .int .i64 0, .int .i64 0, .int .i64 0, .int .i64 0, .string ⟨#[]⟩, .string ⟨#[]⟩, .string ⟨#[]⟩, .int .i64 0, .int .i64 0, .int .i64 0, .string ⟨#[]⟩], .int .i64 10]) (by simp [results, Try.results17, go_sem]) rfl ⟨Rec.zero, 10, decA HR.out HT h0 h1, rfl, (by repeat (first | exact Below.refl _ _ | assumption | refine Gr.ext ?_ _ | refine Gr.alloc ?_ _ | refine Gr.drew ?_ | (refine Gr.set ?_ (by first | (simp; done) | (simp; omega)) _)))⟩
  · rename_i h0 h1
    exact bodyPost_ret (v := .tuple #[.agg #[.int .i64 2, .int .i64 0, .int .i64 0, .int .i64 term, .int .i64 ((v : Int) - 1), .int .i64 0, .int .i64 0, .string ⟨#[]⟩, .string ⟨#[]⟩, .string ⟨#[]⟩, .int .i64 0, .int .i64 0, .int .i64 0, .string ⟨#[]⟩], .int .i64 0]) (by simp [results, Try.results17, go_sem]) rfl ⟨_, 0, decB HR.out HT h0 h1, rfl, (by repeat (first | exact Below.refl _ _ | assumption | refine Gr.ext ?_ _ | refine Gr.alloc ?_ _ | refine Gr.drew ?_ | (refine Gr.set ?_ (by first | (simp; done) | (simp; omega)) _)))⟩
  · rename_i h0
    exact bodyPost_ret (v := .tuple #[.agg #[.int .i64 0, .int .i64 0, .int .i64 0, .int .i64 0, .int .i64 0, .int .i64 0, .int .i64 0, .string ⟨#[]⟩, .string ⟨#[]⟩, .string ⟨#[]⟩, .int .i64 0, .int .i64 0, .int .i64 0, .string ⟨#[]⟩], .int .i64 10]) (by simp [results, Try.results17, go_sem]) rfl ⟨Rec.zero, 10, decC HR.out HT h0, rfl, (by repeat (first | exact Below.refl _ _ | assumption | refine Gr.ext ?_ _ | refine Gr.alloc ?_ _ | refine Gr.drew ?_ | (refine Gr.set ?_ (by first | (simp; done) | (simp; omega)) _)))⟩

set_option maxRecDepth 100000 in
set_option maxHeartbeats 1000000 in
theorem refDecode0 (s : ByteArray) (w : World) (hs : s.size ≤ maxLen) (hk : rd s.data.toList 0 1 ≠ 1 ∧ rd s.data.toList 0 1 ≠ 2 ∧ rd s.data.toList 0 1 ≠ 3) :
    Calls Try.prog 17 #[.string s] w fun e w' => ∃ q er, (q, er) = decR s.data.toList ∧ e = .returned (.tuple #[(.agg #[.int .i64 q.kind, .int .i64 q.gen, .int .i64 q.index, .int .i64 q.term, .int .i64 q.vote, .int .i64 q.many, .int .i64 q.cmd.kind, .string q.cmd.key, .string q.cmd.val, .string q.cmd.old, .int .i64 q.cmd.rev, .int .i64 q.cmd.ses, .int .i64 q.cmd.seq, .string q.data]), .int .i64 er]) ∧ Below w.heap.size w w' := by
  have hs' : Hid (s.size ≤ maxLen) := hs
  clear hs
  go_enter Try.func17, Try.ntmps17
  go_wp2_with fail
  refine (rdAt s _ _ 1 _ hs'.out (by omega) (by omega) rfl (by omega)).mono ?_
  rintro e w1 ⟨kind, bk, rfl, Hkind, rfl⟩
  have hk1 : kind ≠ 1 := by rw [← Hkind.out]; exact hk.1
  have hk2 : kind ≠ 2 := by rw [← Hkind.out]; exact hk.2.1
  have hk3 : kind ≠ 3 := by rw [← Hkind.out]; exact hk.2.2
  have g1 : ((kind : Int) == 1) = false := by rw [beq_eq_false_iff_ne]; omega
  have g2 : ((kind : Int) == 2) = false := by rw [beq_eq_false_iff_ne]; omega
  have g3 : ((kind : Int) == 3) = false := by rw [beq_eq_false_iff_ne]; omega
  have HK : Hid (rd s.data.toList 0 1 ≠ 1 ∧ rd s.data.toList 0 1 ≠ 2 ∧ rd s.data.toList 0 1 ≠ 3) := hk
  clear hk hk1 hk2 hk3
  have HR : Hid (refRd s.data.toList = ⟨kind, 0, 0, 0, 0, 0, ⟨0, ⟨#[]⟩, ⟨#[]⟩, ⟨#[]⟩, 0, 0, 0⟩, ⟨#[]⟩⟩) := by
    show _ = _
    go_light
    have e1 : rd s.data.toList 0 1 = kind := Hkind.out
    unfold refRd
    rw [if_neg HK.out.1, if_neg HK.out.2.1, if_neg HK.out.2.2, e1]
    rfl
  go_wp2_with fail
  refine (refEncodeAny' _ _ _ _ _ _ _ _ _ _ _ _ _ _ _).mono ?_
  rintro e w1 ⟨t, er, rfl, HT, hb1⟩
  obtain ⟨x1, rfl⟩ := Below.ext hb1
  clear hb1
  go_wp2_with fail
  · rename_i h0 h1
    exact bodyPost_ret (v := .tuple #[.agg #[.int .i64 0, .int .i64 0, .int .i64 0, .int .i64 0, .int .i64 0, .int .i64 0, .int .i64 0, .string ⟨#[]⟩, .string ⟨#[]⟩, .string ⟨#[]⟩, .int .i64 0, .int .i64 0, .int .i64 0, .string ⟨#[]⟩], .int .i64 10]) (by simp [results, Try.results17, go_sem]) rfl ⟨Rec.zero, 10, decA HR.out HT h0 h1, rfl, (by repeat (first | exact Below.refl _ _ | assumption | refine Gr.ext ?_ _ | refine Gr.alloc ?_ _ | refine Gr.drew ?_ | (refine Gr.set ?_ (by first | (simp; done) | (simp; omega)) _)))⟩
  · rename_i h0 h1
    exact bodyPost_ret (v := .tuple #[.agg #[.int .i64 kind, .int .i64 0, .int .i64 0, .int .i64 0, .int .i64 0, .int .i64 0, .int .i64 0, .string ⟨#[]⟩, .string ⟨#[]⟩, .string ⟨#[]⟩, .int .i64 0, .int .i64 0, .int .i64 0, .string ⟨#[]⟩], .int .i64 0]) (by simp [results, Try.results17, go_sem]) rfl ⟨_, 0, decB HR.out HT h0 h1, rfl, (by repeat (first | exact Below.refl _ _ | assumption | refine Gr.ext ?_ _ | refine Gr.alloc ?_ _ | refine Gr.drew ?_ | (refine Gr.set ?_ (by first | (simp; done) | (simp; omega)) _)))⟩
  · rename_i h0
    exact bodyPost_ret (v := .tuple #[.agg #[.int .i64 0, .int .i64 0, .int .i64 0, .int .i64 0, .int .i64 0, .int .i64 0, .int .i64 0, .string ⟨#[]⟩, .string ⟨#[]⟩, .string ⟨#[]⟩, .int .i64 0, .int .i64 0, .int .i64 0, .string ⟨#[]⟩], .int .i64 10]) (by simp [results, Try.results17, go_sem]) rfl ⟨Rec.zero, 10, decC HR.out HT h0, rfl, (by repeat (first | exact Below.refl _ _ | assumption | refine Gr.ext ?_ _ | refine Gr.alloc ?_ _ | refine Gr.drew ?_ | (refine Gr.set ?_ (by first | (simp; done) | (simp; omega)) _)))⟩
end Go.Proofs.Ytcbbnmodjnnbeaa
/- The document's own Decode: another kind. -/
set_option linter.unusedSimpArgs false
set_option linter.unusedVariables false
namespace Go.Proofs.Ytcbbnmodjnnbeaa
open Go.RowKit

set_option maxRecDepth 100000 in
set_option maxHeartbeats 1000000 in
theorem refDecode3 (s : ByteArray) (w : World) (hs : s.size ≤ maxLen) (hk : rd s.data.toList 0 1 = 3) :
    Calls Try.prog 17 #[.string s] w fun e w' => ∃ q er, (q, er) = decR s.data.toList ∧ e = .returned (.tuple #[(.agg #[.int .i64 q.kind, .int .i64 q.gen, .int .i64 q.index, .int .i64 q.term, .int .i64 q.vote, .int .i64 q.many, .int .i64 q.cmd.kind, .string q.cmd.key, .string q.cmd.val, .string q.cmd.old, .int .i64 q.cmd.rev, .int .i64 q.cmd.ses, .int .i64 q.cmd.seq, .string q.data]), .int .i64 er]) ∧ Below w.heap.size w w' := by
  have hs' : Hid (s.size ≤ maxLen) := hs
  clear hs
  go_enter Try.func17, Try.ntmps17
  go_wp2_with fail
  refine (rdAt s _ _ 1 _ hs'.out (by omega) (by omega) rfl (by omega)).mono ?_
  rintro e w1 ⟨kind, bk, rfl, Hkind, rfl⟩
  have hk1 : kind = 3 := by rw [← Hkind.out]; exact hk
  subst hk1
  go_wp2_with fail
  refine (rdAt s _ _ 3 _ hs'.out (by omega) (by omega) rfl (by omega)).mono ?_
  rintro e w1 ⟨index, bi, rfl, Hindex, rfl⟩
  go_wp2_with fail
  refine (rdAt s _ _ 3 _ hs'.out (by omega) (by omega) rfl (by omega)).mono ?_
  rintro e w1 ⟨term, bt, rfl, Hterm, rfl⟩
  go_wp2_with fail
  refine (refCommandAt s _ hs'.out).mono ?_
  rintro e w1 ⟨c, Hc0, rfl, hb1⟩
  have Hc : Hid (c = cmdRd s.data.toList 7) := Hc0
  clear Hc0
  obtain ⟨x2, rfl⟩ := Below.ext hb1
  clear hb1
  have HR : Hid (refRd s.data.toList = ⟨3, 0, index, term, 0, 0, c, ⟨#[]⟩⟩) := by
    show _ = _
    go_light
    have e1 : rd s.data.toList 1 3 = index := Hindex.out
    have e2 : rd s.data.toList 4 3 = term := Hterm.out
    unfold refRd
    rw [if_neg (by omega), if_neg (by omega), if_pos hk, e1, e2, ← Hc.out]
    rfl
  go_wp2_with fail
  refine (refEncodeAny' _ _ _ _ _ _ _ _ _ _ _ _ _ _ _).mono ?_
  rintro e w1 ⟨t, er, rfl, HT, hb1⟩
  obtain ⟨x1, rfl⟩ := Below.ext hb1
  clear hb1
  go_wp2_with fail
  · rename_i h0 h1
    exact bodyPost_ret (v := .tuple #[.agg #[.int .i64 0, .int .i64 0, .int .i64 0, .int .i64 0, .int .i64 0, .int .i64 0, .int .i64 0, .string ⟨#[]⟩, .string ⟨#[]⟩, .string ⟨#[]⟩, .int .i64 0, .int .i64 0, .int .i64 0, .string ⟨#[]⟩], .int .i64 10]) (by simp [results, Try.results17, go_sem]) rfl ⟨Rec.zero, 10, decA HR.out HT h0 h1, rfl, (by repeat (first | exact Below.refl _ _ | assumption | refine Gr.ext ?_ _ | refine Gr.alloc ?_ _ | refine Gr.drew ?_ | (refine Gr.set ?_ (by first | (simp; done) | (simp; omega)) _)))⟩
  · rename_i h0 h1
    exact bodyPost_ret (v := .tuple #[.agg #[.int .i64 3, .int .i64 0, .int .i64 index, .int .i64 term, .int .i64 0, .int .i64 0, .int .i64 c.kind, .string c.key, .string c.val, .string c.old, .int .i64 c.rev, .int .i64 c.ses, .int .i64 c.seq, .string ⟨#[]⟩], .int .i64 0]) (by simp [results, Try.results17, go_sem]) rfl ⟨_, 0, decB HR.out HT h0 h1, rfl, (by repeat (first | exact Below.refl _ _ | assumption | refine Gr.ext ?_ _ | refine Gr.alloc ?_ _ | refine Gr.drew ?_ | (refine Gr.set ?_ (by first | (simp; done) | (simp; omega)) _)))⟩
  · rename_i h0
    exact bodyPost_ret (v := .tuple #[.agg #[.int .i64 0, .int .i64 0, .int .i64 0, .int .i64 0, .int .i64 0, .int .i64 0, .int .i64 0, .string ⟨#[]⟩, .string ⟨#[]⟩, .string ⟨#[]⟩, .int .i64 0, .int .i64 0, .int .i64 0, .string ⟨#[]⟩], .int .i64 10]) (by simp [results, Try.results17, go_sem]) rfl ⟨Rec.zero, 10, decC HR.out HT h0, rfl, (by repeat (first | exact Below.refl _ _ | assumption | refine Gr.ext ?_ _ | refine Gr.alloc ?_ _ | refine Gr.drew ?_ | (refine Gr.set ?_ (by first | (simp; done) | (simp; omega)) _)))⟩
end Go.Proofs.Ytcbbnmodjnnbeaa
