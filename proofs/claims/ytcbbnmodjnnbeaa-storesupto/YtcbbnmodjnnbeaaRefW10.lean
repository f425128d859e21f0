/- The document's store: Load. -/
import Derived.Test.YtcbbnmodjnnbeaaRefW8
import Derived.Test.YtcbbnmodjnnbeaaRefW9
import Derived.Test.YtcbbnmodjnnbeaaRead
set_option linter.unusedSimpArgs false
set_option linter.unusedVariables false
namespace Go.Proofs.Ytcbbnmodjnnbeaa
open Go.RowKit

open Classical in
noncomputable def tailS (L : List UInt8) (R F : Nat) (l : List KV) : Option (List (Nat × Res)) → Option (St × List KV)
  | none => none
  | some ss => if ∃ ks, KeysIn ⟨R, F, versOf l, ss⟩ ks ∧ saveL ⟨R, F, versOf l, ss⟩ ks = L then some (⟨R, F, versOf l, ss⟩, l) else none
noncomputable def tailV (L : List UInt8) (R F : Nat) : Option (List KV × Nat) → Option (St × List KV)
  | none => none
  | some (l, p) => tailS L R F l (rSes L R 8 p [])
theorem refLoad_no {L : List UInt8} (h : 1000000 < rd L 0 3 ∨ rd L 0 3 < rd L 3 3) : refLoad L = none := by
  unfold refLoad; rw [if_pos h]
theorem refLoad_yes {L : List UInt8} (h : ¬ (1000000 < rd L 0 3 ∨ rd L 0 3 < rd L 3 3)) : refLoad L = tailV L (rd L 0 3) (rd L 3 3) (rVers L (rd L 0 3) (rd L 6 3) 9 []) := by
  unfold refLoad
  rw [if_neg h]
  cases hv : rVers L (rd L 0 3) (rd L 6 3) 9 [] with
  | none => rfl
  | some x =>
    obtain ⟨l, p⟩ := x
    show _ = tailS L _ _ l (rSes L _ 8 p [])
    simp only
    cases hs : rSes L (rd L 0 3) 8 p [] with
    | none => rfl
    | some ss => rfl
abbrev zS : Nat × Res := (0, ⟨false, 0, false⟩)
/-- What is known of the store on the way of Load. -/
structure LdR (w wr : World) (q R F : Nat) (vl : Value) (ss : List (Nat × Res)) (l : List KV) : Prop where
  st : RefL wr q R F vl ss l
  q0 : w.heap.size ≤ q
  v0 : ∀ y, vl.ownBlock = some y → w.heap.size ≤ y
  below : Below w.heap.size w wr
theorem LdR.grow {w wr W : World} {q R F : Nat} {vl : Value} {ss : List (Nat × Res)} {l : List KV} (h : LdR w wr q R F vl ss l) (hb : Below wr.heap.size wr W) : LdR w W q R F vl ss l :=
  ⟨h.st.grown hb, h.q0, h.v0, h.below.trans (hb.mono h.below.size)⟩
theorem LdR.add {w wr W w' : World} {q R F : Nat} {vl vl' : Value} {ss : List (Nat × Res)} {l l' : List KV} (h : LdR w wr q R F vl ss l) (hb : Below wr.heap.size wr W) (h1 : RefL w' q R F vl' ss l') (h2 : ∀ y, vl'.ownBlock = some y → W.heap.size ≤ y) (h3 : W.turned w' (fun y => y = q)) : LdR w w' q R F vl' ss l' := by
  have a := h.below.size
  have b := hb.size
  have hq := h.q0
  exact ⟨h1, hq, fun y hy => by have := h2 y hy; omega, (h.below.trans (hb.mono a)).trans ⟨h3.os, h3.tape, h3.output, h3.size, fun k hk => h3.block k (by omega) fun e => by omega⟩⟩
theorem may_add {R : Nat} {l l' : List KV} {x : KV} (h : addL l x = some l') (hx : MayKV R x) (hl : ∀ y ∈ l, MayKV R y) : ∀ y ∈ l', MayKV R y := fun y hy => by
  rcases List.mem_cons.1 ((add_mem h).1.mem_iff.1 hy) with rfl | h2
  · exact hx
  · exact hl y h2
theorem part_res1 (a : Nat × Res) (w : World) : (part 72 #[.int .i64 a.1, .bool a.2.ok, .int .i64 a.2.rev, .bool a.2.stale] 1).run Try.prog w = .ok (.agg #[.bool a.2.ok, .int .i64 a.2.rev, .bool a.2.stale]) w := by
  kernel_rfl
theorem eqIn_ses (d : Nat) (a b : Nat × Res) (w : World) : (Op.equalIn (d + 3) 144 (.agg #[.int .i64 a.1, .bool a.2.ok, .int .i64 a.2.rev, .bool a.2.stale]) (.agg #[.int .i64 b.1, .bool b.2.ok, .int .i64 b.2.rev, .bool b.2.stale])).run Try.prog w = .ok (((a.1 : Int) == b.1) && Res.same a.2 b.2) w := by
  rw [run_equalIn_struct w (d + 2) _ _ _ (by kernel_rfl) (by kernel_rfl)]
  have hf : (Program.fieldsOf Try.prog 144).toList = [⟨ "Seq", 3, 0, false, "", "", 0⟩, ⟨ "R", 72, 1, false, "", "", 8⟩] := by kernel_rfl
  rw [hf]
  have h := eqFields_int (w := w) (d := d + 1) (xs := #[.int .i64 a.1, .bool a.2.ok, .int .i64 a.2.rev, .bool a.2.stale]) (ys := #[.int .i64 b.1, .bool b.2.ok, .int .i64 b.2.rev, .bool b.2.stale]) (n := "Seq") (off := 0) (bo := 0) (e := false) (tg := "") (pk := "") (by decide) rfl rfl
    (eqFields_cons w (d + 2) _ _ ⟨ "R", 72, 1, false, "", "", 8⟩ _ (.agg #[.bool a.2.ok, .int .i64 a.2.rev, .bool a.2.stale]) (.agg #[.bool b.2.ok, .int .i64 b.2.rev, .bool b.2.stale]) _ _ (by decide) (part_res1 a w) (part_res1 b w) (eqIn_res d a.2 b.2 w) (eqFields_nil _ _ _ _))
  rw [h, Bool.and_true]
theorem neq_ses (a b : Nat × Res) (w : World) : (binOp .neq 144 (.agg #[.int .i64 a.1, .bool a.2.ok, .int .i64 a.2.rev, .bool a.2.stale]) (.agg #[.int .i64 b.1, .bool b.2.ok, .int .i64 b.2.rev, .bool b.2.stale])).run Try.prog w = .ok (.bool (!(((a.1 : Int) == b.1) && Res.same a.2 b.2))) w := by
  rw [run_neq_struct, eqIn_ses 9997]; rfl
theorem rl_set (r f : Nat) (vl : Value) (ss : List (Nat × Res)) (i : Nat) (x : Nat × Res) : ((((rlC r f vl ss).setIfInBounds (3 + i * 4) (.int .i64 x.1)).setIfInBounds (3 + i * 4 + 1) (.bool x.2.ok)).setIfInBounds (3 + i * 4 + 2) (.int .i64 x.2.rev)).setIfInBounds (3 + i * 4 + 3) (.bool x.2.stale) = rlC r f vl (ss.set i x) := by
  unfold rlC
  rw [List.setIfInBounds_toArray, List.setIfInBounds_toArray, List.setIfInBounds_toArray, List.setIfInBounds_toArray, show 3 + i * 4 = (i * 4) + 1 + 1 + 1 by omega]
  rw [show i * 4 + 1 + 1 + 1 + 1 = (i * 4 + 1) + 1 + 1 + 1 by omega, show i * 4 + 1 + 1 + 1 + 2 = (i * 4 + 2) + 1 + 1 + 1 by omega, show i * 4 + 1 + 1 + 1 + 3 = (i * 4 + 3) + 1 + 1 + 1 by omega]
  simp only [List.set_cons_succ]
  rw [← sess_set]
theorem rl_sess {w : World} {q r f : Nat} {vl : Value} {ss : List (Nat × Res)} (h : w.heap[q]? = some (.cells (rlC r f vl ss) 147)) (i : Nat) (hi : i < ss.length) :
    w.cell? ⟨q, 3 + i * 4, none⟩ = some (.int .i64 ss[i].1) ∧ w.cell? ⟨q, 3 + i * 4 + 1, none⟩ = some (.bool ss[i].2.ok) ∧ w.cell? ⟨q, 3 + i * 4 + 2, none⟩ = some (.int .i64 ss[i].2.rev) ∧ w.cell? ⟨q, 3 + i * 4 + 3, none⟩ = some (.bool ss[i].2.stale) := by
  have key : ∀ j, j < 4 → w.cell? ⟨q, 3 + i * 4 + j, none⟩ = [Value.int .i64 ss[i].1, .bool ss[i].2.ok, .int .i64 ss[i].2.rev, .bool ss[i].2.stale][j]? := by
    intro j hj
    have := sess_at ss i hi j hj
    rw [← this]
    simp only [World.cell?, h, rlC]
    show (Value.int .i64 r :: .int .i64 f :: vl :: sessCells ss).toArray[3 + i * 4 + j]? = _
    rw [List.getElem?_toArray, show 3 + i * 4 + j = (i * 4 + j) + 1 + 1 + 1 by omega]
    simp only [List.getElem?_cons_succ]
  exact ⟨key 0 (by omega), key 1 (by omega), key 2 (by omega), key 3 (by omega)⟩
theorem ses_push (ss : List (Nat × Res)) (x : Nat × Res) (j : Nat) (hj : ss.length + 1 = j) (h8 : j ≤ 8) : (zS :: (ss ++ List.replicate (9 - j) zS)).set j x = zS :: ((ss ++ [x]) ++ List.replicate (9 - (j + 1)) zS) := by
  subst hj
  rw [List.set_cons_succ, List.set_append, if_neg (by omega), Nat.sub_self, show 9 - (ss.length + 1) = (9 - (ss.length + 1 + 1)) + 1 by omega, List.replicate_succ, List.set_cons_zero, List.append_assoc]
  rfl
theorem LdR.setS {w wr W : World} {q R F : Nat} {vl : Value} {ss : List (Nat × Res)} {l : List KV} (h : LdR w wr q R F vl ss l) (hb : Below wr.heap.size wr W) (i : Nat) (x : Nat × Res) :
    LdR w ((((W.setCell ⟨q, 3 + i * 4, none⟩ (.int .i64 x.1)).setCell ⟨q, 3 + i * 4 + 1, none⟩ (.bool x.2.ok)).setCell ⟨q, 3 + i * 4 + 2, none⟩ (.int .i64 x.2.rev)).setCell ⟨q, 3 + i * 4 + 3, none⟩ (.bool x.2.stale)) q R F vl (ss.set i x) l := by
  have h1 := h.st.grown hb
  refine ⟨⟨?_, h1.own.keep fun y hy => ?_, h1.asc, h1.len⟩, h.q0, h.v0, ?_⟩
  · rw [setCell_heapB, if_pos rfl, setCell_heapB, if_pos rfl, setCell_heapB, if_pos rfl, setCell_heapB, if_pos rfl, h1.blk]
    show some (Obj.cells _ _) = _
    rw [← rl_set]
  · have hne : y ≠ q := fun e => h1.off (e ▸ hy)
    rw [setCell_heapB, if_neg hne, setCell_heapB, if_neg hne, setCell_heapB, if_neg hne, setCell_heapB, if_neg hne]
  · have t : W.turned ((((W.setCell ⟨q, 3 + i * 4, none⟩ (.int .i64 x.1)).setCell ⟨q, 3 + i * 4 + 1, none⟩ (.bool x.2.ok)).setCell ⟨q, 3 + i * 4 + 2, none⟩ (.int .i64 x.2.rev)).setCell ⟨q, 3 + i * 4 + 3, none⟩ (.bool x.2.stale)) (fun y => y = q) := World.turned.set (S := fun x => x = q) (World.turned.set (S := fun x => x = q) (World.turned.set (S := fun x => x = q) (World.turned.set (S := fun x => x = q) (World.turned.refl W _) (fun _ => rfl) _) (fun _ => rfl) _) (fun _ => rfl) _) (fun _ => rfl) _
    have hq := h.q0
    have hs := hb.size
    have h2 := h.below.size
    exact (h.below.trans (hb.mono h2)).trans ⟨t.os, t.tape, t.output, t.size, fun k hk => t.block k (by omega) fun e => by omega⟩
theorem LdR.ref {w wr : World} {q R F : Nat} {vl : Value} {ss : List (Nat × Res)} {l : List KV} (h : LdR w wr q R F vl (zS :: ss) l) (hR : R ≤ 1000000) (hF : F ≤ R) (hm : ∀ x ∈ l, MayKV R x) (h8 : ss.length = 8) (hs : ∀ x ∈ ss, SesOk R x) : RefAt wr q vl ⟨R, F, versOf l, ss⟩ l ∧ Sav ⟨R, F, versOf l, ss⟩ := by
  have hS := tells_sav hR hF h.st.asc hm h8 hs
  exact ⟨⟨h.st.blk, h.st.own, ⟨h.st.asc, fun k => rfl⟩, hS.bnd.good⟩, hS⟩
def LoadOut (w : World) (s : ByteArray) (e : Ending) (w' : World) : Prop := (loadS s.data.toList = none ∧ e = .returned (.tuple #[.pointer none, .int .i64 10]) ∧ Below w.heap.size w w') ∨ ∃ st l q vl, loadS s.data.toList = some st ∧ Sav st ∧ e = .returned (.tuple #[.pointer (some ⟨q, 0, none⟩), .int .i64 0]) ∧ RefAt w' q vl st l ∧ (∀ x, footR q vl x → w.heap.size ≤ x) ∧ Below w.heap.size w w'
set_option maxRecDepth 100000 in
set_option maxHeartbeats 8000000 in
theorem refLoadW (w : World) (s : ByteArray) (hs : s.size ≤ 100000000) :
    Calls Try.prog 116 #[.string s] w fun e w' => LoadOut w s e w' := by
  have hs' : Hid (s.size ≤ maxLen) := by show _ ≤ _; unfold maxLen; omega
  have hs1 : Hid (s.size ≤ 100000000) := hs
  have HSL : Hid (s.data.toList.length = s.size) := len_data s
  obtain ⟨o, ho⟩ : ∃ o, refLoad s.data.toList = o := ⟨_, rfl⟩
  have HO : Hid (refLoad s.data.toList = o) := ho
  have HNO : Hid (∀ (e : Ending) W, o = none → e = .returned (.tuple #[.pointer none, .int .i64 10]) → Below w.heap.size w W → LoadOut w s e W) := fun e W h he hb => .inl ⟨ref_none (ho.trans h), he, hb⟩
  clear ho hs
  go_enter Try.func116, Try.ntmps116
  go_wp2_with fail
  refine (rdAt s _ _ 3 _ hs'.out (by omega) (by omega) rfl (by omega)).mono ?_
  rintro e w1 ⟨R, hR24, rfl, HR, hw1⟩
  subst hw1
  go_wp2_with fail
  refine (rdAt s _ _ 3 _ hs'.out (by omega) (by omega) rfl (by omega)).mono ?_
  rintro e w1 ⟨Fl, hF24, rfl, HF, hw1⟩
  subst hw1
  have HRR : Hid (rd s.data.toList 0 3 = R) := HR.out
  have HFF : Hid (rd s.data.toList 3 3 = Fl) := HF.out
  clear HR HF
  go_wp2_with fail
  obtain ⟨q, hq0⟩ : ∃ q, w1.heap.size = q := ⟨_, rfl⟩
  refine world_any (F := fun W => LdR w1 W w1.heap.size R Fl nilS (List.replicate 9 zS) []) ⟨⟨Hp.new rfl, World.ownL.nil _ _ _, List.Pairwise.nil, by simp⟩, Nat.le_refl _, (fun y hy => by cases hy), (by repeat (first | exact Below.refl _ _ | assumption | with_reducible refine below_drewN ?_ _ | refine Gr.ext ?_ _ | refine Gr.alloc ?_ _ | refine Gr.drew ?_ | (refine Gr.set ?_ (by first | (simp; done) | (simp; omega)) _)))⟩ ?_
  intro w2 hL2
  have HL2 : Hid (LdR w1 w2 w1.heap.size R Fl nilS (List.replicate 9 zS) []) := hL2
  obtain ⟨c0, c1, c2, cf⟩ := rl_cells hL2.st.blk
  have hq2 : w1.heap.size < w2.heap.size := hL2.st.lt
  rw [hq0] at c0 c1 c2 cf hq2 HL2 ⊢
  have HQ0 : Hid (w1.heap.size = q) := hq0
  clear hL2 hq0
  by_cases hbad : 1000000 < R ∨ R < Fl
  · have HBAD : Hid (o = none) := by show _ = _; rw [← HO.out]; exact refLoad_no (by rw [HRR.out, HFF.out]; exact hbad)
    by_cases hb1 : 1000000 < R
    · have g1 : decide ((1000000 : Int) < (R : Int)) = true := decide_eq_true (by omega)
      clear hbad hb1
      go_wp2_with fail
      go_quiet (fail)
      go_wp2_with fail
      exact bodyPost_ret (v := .tuple #[.pointer none, .int .i64 10]) (by simp [results, Try.results116, go_sem]) rfl (HNO.out _ _ HBAD.out rfl (below_drewN HL2.out.below _))
    · have g1 : decide ((1000000 : Int) < (R : Int)) = false := decide_eq_false (by omega)
      have g2 : decide (R < Fl) = true := decide_eq_true (by omega)
      clear hbad hb1
      go_wp2_with fail
      go_quiet (fail)
      go_wp2_with fail
      exact bodyPost_ret (v := .tuple #[.pointer none, .int .i64 10]) (by simp [results, Try.results116, go_sem]) rfl (HNO.out _ _ HBAD.out rfl (below_drewN HL2.out.below _))
  · have HOK : Hid (o = tailV s.data.toList R Fl (rVers s.data.toList R (rd s.data.toList 6 3) 9 [])) := by
      show _ = _; rw [← HO.out, refLoad_yes (by rw [HRR.out, HFF.out]; exact hbad), HRR.out, HFF.out]
    have hR : R ≤ 1000000 := by omega
    have hF : Fl ≤ R := by omega
    have g1 : decide ((1000000 : Int) < (R : Int)) = false := decide_eq_false (by omega)
    have g2 : decide (R < Fl) = false := decide_eq_false (by omega)
    clear hbad
    go_wp2_with fail
    go_quiet (fail)
    go_wp2_with fail
    refine (rdAt s _ _ 3 _ hs'.out (by omega) (by omega) rfl (by omega)).mono ?_
    rintro e w3 ⟨N, hN24, rfl, HNN, hw3⟩
    have HL3 : Hid (LdR w1 w3 q R Fl nilS (List.replicate 9 zS) []) := by rw [hw3]; exact HL2.out.grow (by repeat (first | exact Below.refl _ _ | assumption | with_reducible refine below_drewN ?_ _ | refine Gr.ext ?_ _ | refine Gr.alloc ?_ _ | refine Gr.drew ?_ | (refine Gr.set ?_ (by first | (simp; done) | (simp; omega)) _)))
    have HT0 : Hid (o = tailV s.data.toList R Fl (rVers s.data.toList R N 9 [])) := by
      show _ = _
      rw [HOK.out]
      have h := HNN.out
      rw [show ((6 : Int)).toNat = 6 from rfl] at h
      rw [h]
    clear hw3 HL2 c0 c1 c2 cf hq2 g1 g2 HOK HNN
    go_wp2_with fail
    go_loopw [5, 6] (fun av nv wr => ∃ (p n : Nat) (l : List KV) (vl : Value), av = .int .i64 p ∧ nv = .int .i64 n ∧ p ≤ 100000009 ∧ l.length + n ≤ 16777216 ∧ Hid (o = tailV s.data.toList R Fl (rVers s.data.toList R n p l)) ∧ Hid (LdR w1 wr q R Fl vl (List.replicate 9 zS) l) ∧ Hid (∀ x ∈ l, MayKV R x)) (fun _ nv _ => (intOf nv).toNat)
    case atStart => exact ⟨9, N, [], nilS, rfl, rfl, by omega, by simp; omega, HT0, HL3, fun x hx => by cases hx⟩
    case round =>
      clear HT0 HL3
      obtain ⟨p, n, l, vl, rfl, rfl, hp, hln, HT, HL, HMK⟩ := hrel
      rcases Nat.eq_zero_or_pos n with hn0 | hn0
      · subst hn0
        have HT2 : Hid (o = tailS s.data.toList R Fl l (rSes s.data.toList R 8 p [])) := by show _ = _; rw [HT.out]; rfl
        clear HT hln
        go_wp2_with fail
        rw [show ((0 : Nat) : Int) = 0 from rfl]
        go_loopw [5, 11] (fun av iv wr => ∃ (j a : Nat) (ss : List (Nat × Res)), av = .int .i64 a ∧ iv = .int .i64 j ∧ 1 ≤ j ∧ j ≤ 9 ∧ a ≤ 100000002 + 7 * j ∧ Hid (ss.length + 1 = j) ∧ Hid (o = tailS s.data.toList R Fl l (rSes s.data.toList R (9 - j) a ss)) ∧ Hid (LdR w1 wr q R Fl vl (zS :: (ss ++ List.replicate (9 - j) zS)) l) ∧ Hid (∀ x ∈ ss, SesOk R x)) (fun _ iv _ => 9 - (intOf iv).toNat)
        case atStart => exact ⟨1, p, [], rfl, rfl, by omega, by omega, by omega, rfl, HT2, HL, fun x hx => by cases hx⟩
        case round =>
          clear HT2 HL
          obtain ⟨j, a, ss, rfl, rfl, hj1, hj9, ha, HSN, HT, HL, HSO⟩ := hrel
          by_cases hj8 : j ≤ 8
          · have hj8' : (j : Int) ≤ 8 := by omega
            go_wp2_with fail
            refine (rdAt s _ _ 3 _ hs'.out (by omega) (by omega) rfl (by omega)).mono ?_
            rintro e w4 ⟨sa, hsa, rfl, HSA, hw4⟩
            rw [hw4]
            clear hw4
            go_wp2_with fail
            refine (rdAt s _ _ 1 _ hs'.out (by omega) (by omega) rfl (by omega)).mono ?_
            rintro e w4 ⟨sb, hsb, rfl, HSB, hw4⟩
            rw [hw4]
            clear hw4
            obtain ⟨sg, hsg⟩ : ∃ sg, ((sb : Int) == 1) = sg := ⟨_, rfl⟩
            go_wp2_with fail
            refine (rdAt s _ _ 3 _ hs'.out (by omega) (by omega) rfl (by omega)).mono ?_
            rintro e w4 ⟨sc, hsc, rfl, HSC, hw4⟩
            rw [hw4]
            clear hw4
            go_wp2_with fail
            obtain ⟨zb, hzb⟩ : ∃ zb, (!(((sa : Int) == 0) && Res.same ⟨sg, sc, false⟩ ⟨false, 0, false⟩)) = zb := ⟨_, rfl⟩
            have hne : ∀ W, (binOp .neq 144 (.agg #[.int .i64 sa, .bool sg, .int .i64 sc, .bool false]) (.agg #[.int .i64 0, .bool false, .int .i64 0, .bool false])).run Try.prog W = .ok (.bool zb) W := fun W => by rw [← hzb]; exact neq_ses (sa, ⟨sg, sc, false⟩) (0, ⟨false, 0, false⟩) W
            have HX : Hid (sAt s.data.toList a = (sa, ⟨sg, sc, false⟩)) := by
              have e1 := HSA.out
              rw [Int.toNat_natCast] at e1
              have e2 := HSB.out
              rw [show ((a : Int) + 3).toNat = a + 3 by omega] at e2
              have e3 := HSC.out
              rw [show ((a : Int) + 4).toNat = a + 4 by omega] at e3
              show _ = _
              unfold sAt
              rw [e1, e2, e3, ← hsg]
              have e7 : (sb == 1) = ((sb : Int) == 1) := by rw [Bool.eq_iff_iff, beq_iff_eq, beq_iff_eq]; omega
              rw [e7]
            have HBS : Hid ((1000000 < sa ∨ R < sc ∨ (sa = 0 ∧ zb = true)) → o = none) := by
              intro h
              have hb : badS R (sAt s.data.toList a) := by
                rw [HX.out]
                unfold badS
                rcases h with h | h | ⟨h, hz⟩
                · exact .inl h
                · exact .inr (.inl (by simp only; omega))
                · refine .inr (.inr ⟨h, fun hn => ?_⟩)
                  obtain ⟨e1, e2⟩ := hn
                  simp only at e1 e2
                  rw [← hzb, h, e1, e2] at hz
                  simp [Res.same] at hz
              rw [HT.out, show 9 - j = (9 - (j + 1)) + 1 by omega, rSes_bad hb]; rfl
            have HNS : Hid (¬ 1000000 < sa → ¬ R < sc → (sa = 0 → zb = false) → ¬ badS R (sAt s.data.toList a)) := by
              intro h1 h2 h3 hb
              rw [HX.out] at hb
              unfold badS at hb
              rcases hb with h | h | ⟨h, hz⟩
              · exact h1 h
              · simp only at h; omega
              · apply hz
                have h4 := h3 h
                simp only at h
                rw [← hzb, h] at h4
                simp only [Int.natCast_zero, beq_self_eq_true, Bool.true_and, Bool.not_eq_false'] at h4
                have h5 := (Res.same_iff _ _).1 h4
                injection h5 with h6 h7 h8
                exact ⟨h6, h7⟩
            refine world_any (F := fun W => Below wr.heap.size wr W ∧ W.heap[wr.heap.size]? = some (.cells #[.int .i64 sa, .bool sg, .int .i64 sc, .bool false] 144)) ⟨(by repeat (first | exact Below.refl _ _ | assumption | with_reducible refine below_drewN ?_ _ | refine Gr.ext ?_ _ | refine Gr.alloc ?_ _ | refine Gr.drew ?_ | (refine Gr.set ?_ (by first | (simp; done) | (simp; omega)) _))), heap_alloc_new _ _⟩ ?_
            rintro w5 ⟨hb5, hv5⟩
            have HL5 : Hid (LdR w1 w5 q R Fl vl (zS :: (ss ++ List.replicate (9 - j) zS)) l) := HL.out.grow hb5
            obtain ⟨c0, c1, c2, cf⟩ := rl_cells HL5.out.st.blk
            have hq5 : q < w5.heap.size := HL5.out.st.lt
            have v0 : w5.cell? ⟨wr.heap.size, 0, none⟩ = some (.int .i64 sa) := by simp only [World.cell?, hv5]; rfl
            have v1 : w5.cell? ⟨wr.heap.size, 1, none⟩ = some (.bool sg) := by simp only [World.cell?, hv5]; rfl
            have v2 : w5.cell? ⟨wr.heap.size, 2, none⟩ = some (.int .i64 sc) := by simp only [World.cell?, hv5]; rfl
            have v3 : w5.cell? ⟨wr.heap.size, 3, none⟩ = some (.bool false) := by simp only [World.cell?, hv5]; rfl
            have hvl5 : wr.heap.size < w5.heap.size := (Array.getElem?_eq_some_iff.1 hv5).1
            clear hb5 hv5 HSA HSB HSC hsg hzb HL
            by_cases h1 : 1000000 < sa
            · have g10 : decide ((1000000 : Int) < (sa : Int)) = true := decide_eq_true (by omega)
              have HBAD : Hid (o = none) := HBS.out (.inl h1)
              clear h1 
              go_wp2_with fail
              go_quiet (fail)
              go_wp2_with fail
              exact bodyPost_ret (v := .tuple #[.pointer none, .int .i64 10]) (by simp [results, Try.results116, go_sem]) rfl (HNO.out _ _ HBAD.out rfl (below_drewN HL5.out.below _))
            · have g10 : decide ((1000000 : Int) < (sa : Int)) = false := decide_eq_false (by omega)
              by_cases h2 : R < sc
              · have g20 : decide ((R : Int) < (sc : Int)) = true := decide_eq_true (by omega)
                have g21 : decide (R < sc) = true := decide_eq_true (by omega)
                have HBAD : Hid (o = none) := HBS.out (.inr (.inl h2))
                clear h1 h2
                go_wp2_with fail
                go_quiet (fail)
                go_wp2_with fail
                exact bodyPost_ret (v := .tuple #[.pointer none, .int .i64 10]) (by simp [results, Try.results116, go_sem]) rfl (HNO.out _ _ HBAD.out rfl (below_drewN HL5.out.below _))
              · have g20 : decide ((R : Int) < (sc : Int)) = false := decide_eq_false (by omega)
                have g21 : decide (R < sc) = false := decide_eq_false (by omega)
                by_cases h3 : sa = 0
                · have g30 : ((sa : Int) == 0) = true := beq_iff_eq.2 (by omega)
                  have g31 : (sa == 0) = true := beq_iff_eq.2 (by omega)
                  rcases zb with _ | _
                  · have HNB : Hid (¬ badS R (sAt s.data.toList a)) := HNS.out h1 h2 (fun _ => rfl)
                    clear h1 h2 h3 hsa hsb hsc
                    obtain ⟨z0, z1, z2, z3⟩ := rl_sess HL5.out.st.blk j (by have := HSN.out; rw [List.length_cons, List.length_append, List.length_replicate]; omega)
                    have HT6 : Hid (o = tailS s.data.toList R Fl l (rSes s.data.toList R (9 - (j + 1)) (a + 7) (ss ++ [(sa, ⟨sg, sc, false⟩)]))) := by
                      show _ = _
                      rw [HT.out, show 9 - j = (9 - (j + 1)) + 1 by omega, rSes_ok HNB.out, HX.out]
                    have HSO6 : Hid (∀ x ∈ ss ++ [(sa, (⟨sg, sc, false⟩ : Res))], SesOk R x) := by
                      intro x hx
                      rcases List.mem_append.1 hx with hx | hx
                      · exact HSO.out x hx
                      · rw [List.mem_singleton.1 hx, ← HX.out]; exact sAt_ok HNB.out
                    have HSN6 : Hid ((ss ++ [(sa, (⟨sg, sc, false⟩ : Res))]).length + 1 = j + 1) := by show _ = _; rw [List.length_append, List.length_singleton, HSN.out]
                    go_wp2_with fail
                    go_quiet (fail)
                    go_wp2_with fail
                    go_region_with fail
                    all_goals
                      have HL6 : Hid (LdR w1 (((((w5.drewN (nq + 1)).setCell ⟨q, 3 + j * 4, none⟩ (.int .i64 sa)).setCell ⟨q, 3 + j * 4 + 1, none⟩ (.bool sg)).setCell ⟨q, 3 + j * 4 + 2, none⟩ (.int .i64 sc)).setCell ⟨q, 3 + j * 4 + 3, none⟩ (.bool false)) q R Fl vl (zS :: ((ss ++ [(sa, ⟨sg, sc, false⟩)]) ++ List.replicate (9 - (j + 1)) zS)) l) := by
                        have h := HL5.out.setS (W := w5.drewN (nq + 1)) (by repeat (first | exact Below.refl _ _ | assumption | with_reducible refine below_drewN ?_ _ | refine Gr.ext ?_ _ | refine Gr.alloc ?_ _ | refine Gr.drew ?_ | (refine Gr.set ?_ (by first | (simp; done) | (simp; omega)) _))) j (sa, ⟨sg, sc, false⟩)
                        rw [ses_push ss _ j HSN.out hj8] at h
                        exact h
                      clear z0 z1 z2 z3 c0 c1 c2 cf v0 v1 v2 v3 hne
                      go_wp2_with fail
                      exact ⟨⟨j + 1, a + 7, _, val_int (by omega), val_int (by omega), by omega, by omega, by omega, HSN6, HT6, HL6, HSO6⟩, by simp [intOf]; omega⟩
                  · have HBAD : Hid (o = none) := HBS.out (.inr (.inr ⟨h3, rfl⟩))
                    clear h1 h2 h3
                    go_wp2_with fail
                    go_quiet (fail)
                    go_wp2_with fail
                    exact bodyPost_ret (v := .tuple #[.pointer none, .int .i64 10]) (by simp [results, Try.results116, go_sem]) rfl (HNO.out _ _ HBAD.out rfl (below_drewN HL5.out.below _))
                · have g30 : ((sa : Int) == 0) = false := beq_eq_false_iff_ne.2 (by omega)
                  have g31 : (sa == 0) = false := beq_eq_false_iff_ne.2 (by omega)
                  have HNB : Hid (¬ badS R (sAt s.data.toList a)) := HNS.out h1 h2 (fun h => absurd h h3)
                  clear h1 h2 h3 hsa hsb hsc
                  obtain ⟨z0, z1, z2, z3⟩ := rl_sess HL5.out.st.blk j (by have := HSN.out; rw [List.length_cons, List.length_append, List.length_replicate]; omega)
                  have HT6 : Hid (o = tailS s.data.toList R Fl l (rSes s.data.toList R (9 - (j + 1)) (a + 7) (ss ++ [(sa, ⟨sg, sc, false⟩)]))) := by
                    show _ = _
                    rw [HT.out, show 9 - j = (9 - (j + 1)) + 1 by omega, rSes_ok HNB.out, HX.out]
                  have HSO6 : Hid (∀ x ∈ ss ++ [(sa, (⟨sg, sc, false⟩ : Res))], SesOk R x) := by
                    intro x hx
                    rcases List.mem_append.1 hx with hx | hx
                    · exact HSO.out x hx
                    · rw [List.mem_singleton.1 hx, ← HX.out]; exact sAt_ok HNB.out
                  have HSN6 : Hid ((ss ++ [(sa, (⟨sg, sc, false⟩ : Res))]).length + 1 = j + 1) := by show _ = _; rw [List.length_append, List.length_singleton, HSN.out]
                  go_wp2_with fail
                  go_quiet (fail)
                  go_wp2_with fail
                  go_region_with fail
                  all_goals
                    have HL6 : Hid (LdR w1 (((((w5.drewN (nq + 1)).setCell ⟨q, 3 + j * 4, none⟩ (.int .i64 sa)).setCell ⟨q, 3 + j * 4 + 1, none⟩ (.bool sg)).setCell ⟨q, 3 + j * 4 + 2, none⟩ (.int .i64 sc)).setCell ⟨q, 3 + j * 4 + 3, none⟩ (.bool false)) q R Fl vl (zS :: ((ss ++ [(sa, ⟨sg, sc, false⟩)]) ++ List.replicate (9 - (j + 1)) zS)) l) := by
                      have h := HL5.out.setS (W := w5.drewN (nq + 1)) (by repeat (first | exact Below.refl _ _ | assumption | with_reducible refine below_drewN ?_ _ | refine Gr.ext ?_ _ | refine Gr.alloc ?_ _ | refine Gr.drew ?_ | (refine Gr.set ?_ (by first | (simp; done) | (simp; omega)) _))) j (sa, ⟨sg, sc, false⟩)
                      rw [ses_push ss _ j HSN.out hj8] at h
                      exact h
                    clear z0 z1 z2 z3 c0 c1 c2 cf v0 v1 v2 v3 hne
                    go_wp2_with fail
                    exact ⟨⟨j + 1, a + 7, _, val_int (by omega), val_int (by omega), by omega, by omega, by omega, HSN6, HT6, HL6, HSO6⟩, by simp [intOf]; omega⟩
          · have hj : j = 9 := by omega
            subst hj
            have HRS : Hid (RefAt wr q vl ⟨R, Fl, versOf l, ss⟩ l ∧ Sav ⟨R, Fl, versOf l, ss⟩) := LdR.ref (by have h := HL.out; rw [show List.replicate (9 - 9) zS = [] from rfl, List.append_nil] at h; exact h) hR hF HMK.out (by have := HSN.out; omega) HSO.out
            have HTS : Hid (o = tailS s.data.toList R Fl l (some ss)) := by show _ = _; rw [HT.out]; rfl
            have HFT : Hid (∀ x, footR q vl x → w1.heap.size ≤ x) := by
              intro x hx
              rcases hx with rfl | hx
              · exact HL.out.q0
              · exact HL.out.v0 x hx
            have HBL : Hid (Below w1.heap.size w1 wr) := HL.out.below
            clear HT HL hj1 hj9 ha HSN HSO hj8
            go_wp2_with fail
            refine (refSave _ q vl ⟨R, Fl, versOf l, ss⟩ l (HRS.out.1.grown (by repeat (first | exact Below.refl _ _ | assumption | with_reducible refine below_drewN ?_ _ | refine Gr.ext ?_ _ | refine Gr.alloc ?_ _ | refine Gr.drew ?_ | (refine Gr.set ?_ (by first | (simp; done) | (simp; omega)) _)))) HRS.out.2).mono ?_
            rintro e w6 ⟨ks, hks, rfl, hb6⟩
            obtain ⟨u, hu⟩ : ∃ u, B (saveL ⟨R, Fl, versOf l, ss⟩ ks) = u := ⟨_, rfl⟩
            rw [hu]
            have HBW : Hid (Below w1.heap.size w1 w6) := HBL.out.trans (hb6.mono HBL.out.size)
            by_cases hus : u = s
            · have g1 : (u.toList == s.toList) = true := by rw [hus]; exact beq_self_eq_true _
              have HSM : Hid (o = some (⟨R, Fl, versOf l, ss⟩, l)) := by
                rw [HTS.out]
                unfold tailS
                exact if_pos ⟨ks, hks, by rw [← hus, ← hu]; rfl⟩
              have HR6 : Hid (RefAt w6 q vl ⟨R, Fl, versOf l, ss⟩ l) := HRS.out.1.grown hb6
              clear hus hu hks hb6 HTS
              go_wp2_with fail
              exact bodyPost_ret (v := .tuple #[.pointer (some ⟨q, 0, none⟩), .int .i64 0]) (by simp [results, Try.results116, go_sem]) rfl (.inr ⟨_, l, q, vl, (ref_back (HO.out.trans HSM.out)).1, HRS.out.2, rfl, HR6.out, HFT.out, HBW.out⟩)
            · have g1 : (u.toList == s.toList) = false := by rw [← beq_toListBytes, ← Bool.not_eq_true]; exact fun h => hus ((beq_bytes _ _).1 h)
              have HBAD : Hid (o = none) := by
                rw [HTS.out]
                unfold tailS
                refine if_neg ?_
                rintro ⟨ks', hk', he'⟩
                apply hus
                rw [← hu, saveL_same hks hk', he']
                exact B_eta s
              clear hus hu hks hb6 HTS
              go_wp2_with fail
              exact bodyPost_ret (v := .tuple #[.pointer none, .int .i64 10]) (by simp [results, Try.results116, go_sem]) rfl (HNO.out _ _ HBAD.out rfl HBW.out)
      · obtain ⟨n', rfl⟩ : ∃ n', n = n' + 1 := ⟨n - 1, by omega⟩
        have hn1 : (0 : Int) < ((n' + 1 : Nat) : Int) := by omega
        go_wp2_with fail
        refine (rdAt s _ _ 1 _ hs'.out (by omega) (by omega) rfl (by omega)).mono ?_
        rintro e w4 ⟨k, hk, rfl, HK, hw4⟩
        rw [hw4]
        clear hw4
        go_wp2_with fail
        refine (cutAt s _ _ _ hs'.out (by omega) (by omega) (by omega) (by omega)).mono ?_
        rintro e w4 ⟨key, rfl, HKEY, hw4⟩
        rw [hw4]
        clear hw4
        go_wp2_with fail
        refine (rdAt s _ _ 3 _ hs'.out (by omega) (by omega) rfl (by omega)).mono ?_
        rintro e w4 ⟨rv, hrv, rfl, HRV, hw4⟩
        rw [hw4]
        clear hw4
        go_wp2_with fail
        refine (rdAt s _ _ 1 _ hs'.out (by omega) (by omega) rfl (by omega)).mono ?_
        rintro e w4 ⟨gb, hgb, rfl, HGB, hw4⟩
        rw [hw4]
        clear hw4
        obtain ⟨gn, hgn⟩ : ∃ gn, ((gb : Int) == 1) = gn := ⟨_, rfl⟩
        go_wp2_with fail
        refine (rdAt s _ _ 1 _ hs'.out (by omega) (by omega) rfl (by omega)).mono ?_
        rintro e w4 ⟨mm, hmm, rfl, HMM, hw4⟩
        rw [hw4]
        clear hw4
        go_wp2_with fail
        refine (cutAt s _ _ _ hs'.out (by omega) (by omega) (by omega) (by omega)).mono ?_
        rintro e w4 ⟨txt, rfl, HTXT, hw4⟩
        rw [hw4]
        clear hw4
        go_wp2_with fail
        refine world_any (F := fun W => Below wr.heap.size wr W ∧ W.heap[wr.heap.size]? = some (.cells #[.string key, .int .i64 rv, .bool gn, .string txt] 203)) ⟨(by repeat (first | exact Below.refl _ _ | assumption | with_reducible refine below_drewN ?_ _ | refine Gr.ext ?_ _ | refine Gr.alloc ?_ _ | refine Gr.drew ?_ | (refine Gr.set ?_ (by first | (simp; done) | (simp; omega)) _))), heap_alloc_new _ _⟩ ?_
        rintro w5 ⟨hb5, hv5⟩
        obtain ⟨L, hL⟩ : ∃ L, s.data.toList = L := ⟨_, rfl⟩
        have HVK : Hid (vK s.data.toList p = k ∧ vM s.data.toList p = mm ∧ vN s.data.toList p = p + 5 + k + 1 + mm ∧ vAt s.data.toList p = (key, ⟨rv, txt, gn⟩)) := by
          clear hL
          have e1 : vK s.data.toList p = k := by have h := HK.out; rwa [Int.toNat_natCast] at h
          have e2 : vM s.data.toList p = mm := by have h := HMM.out; unfold vM; rw [e1]; rwa [show ((p : Int) + 5 + k).toNat = p + 5 + k by omega] at h
          refine ⟨e1, e2, by unfold vN; rw [e1, e2], ?_⟩
          have e3 := HKEY.out
          rw [show ((p : Int) + 1).toNat = p + 1 by omega, Int.toNat_natCast] at e3
          have e4 := HRV.out
          rw [show ((p : Int) + 1 + k).toNat = p + 1 + k by omega] at e4
          have e5 := HGB.out
          rw [show ((p : Int) + 4 + k).toNat = p + 4 + k by omega] at e5
          have e6 := HTXT.out
          rw [show ((p : Int) + 5 + k + 1).toNat = p + 5 + k + 1 by omega, Int.toNat_natCast] at e6
          unfold vAt
          rw [e1, e2, ← e3, e4, e5, ← e6, ← hgn]
          have e7 : (gb == 1) = ((gb : Int) == 1) := by rw [Bool.eq_iff_iff, beq_iff_eq, beq_iff_eq]; omega
          rw [e7]
        clear hL L
        have HBD : Hid (((s.size : Int) < (p : Int) + 5 + k + 1 + mm ∨ k = 0 ∨ 8 < k ∨ 8 < mm ∨ (gn = true ∧ 0 < mm) ∨ (rv : Int) < 1 ∨ R < rv) → o = none) := by
          intro h
          have hb : badV s.data.toList R p := by
            unfold badV
            rw [HVK.out.1, HVK.out.2.1, HVK.out.2.2.1, HVK.out.2.2.2, HSL.out]
            rcases h with h | h | h | h | h | h | h
            · exact .inl (by omega)
            · exact .inr (.inl h)
            · exact .inr (.inr (.inl h))
            · exact .inr (.inr (.inr (.inl h)))
            · exact .inr (.inr (.inr (.inr (.inl h))))
            · exact .inr (.inr (.inr (.inr (.inr (.inl (show rv < 1 by omega))))))
            · exact .inr (.inr (.inr (.inr (.inr (.inr h)))))
          rw [HT.out, rVers_bad hb]; rfl
        have HL5 : Hid (LdR w1 w5 q R Fl vl (List.replicate 9 zS) l) := HL.out.grow hb5
        obtain ⟨c0, c1, c2, cf⟩ := rl_cells HL5.out.st.blk
        have hq5 : q < w5.heap.size := HL5.out.st.lt
        have v0 : w5.cell? ⟨wr.heap.size, 0, none⟩ = some (.string key) := by simp only [World.cell?, hv5]; rfl
        have v1 : w5.cell? ⟨wr.heap.size, 1, none⟩ = some (.int .i64 rv) := by simp only [World.cell?, hv5]; rfl
        have v2 : w5.cell? ⟨wr.heap.size, 2, none⟩ = some (.bool gn) := by simp only [World.cell?, hv5]; rfl
        have v3 : w5.cell? ⟨wr.heap.size, 3, none⟩ = some (.string txt) := by simp only [World.cell?, hv5]; rfl
        have hvl5 : wr.heap.size < w5.heap.size := (Array.getElem?_eq_some_iff.1 hv5).1
        clear hb5 hv5 HK HKEY HRV HGB HMM HTXT hgn
        by_cases h1 : (s.size : Int) < (p : Int) + 5 + k + 1 + mm
        · have g10 : decide ((s.size : Int) < (p : Int) + 5 + k + 1 + mm) = true := decide_eq_true (by omega)
          have HBAD : Hid (o = none) := HBD.out (.inl h1)
          clear h1
          go_wp2_with fail
          go_quiet (fail)
          go_wp2_with fail
          exact bodyPost_ret (v := .tuple #[.pointer none, .int .i64 10]) (by simp [results, Try.results116, go_sem]) rfl (HNO.out _ _ HBAD.out rfl (below_drewN HL5.out.below _))
        · have g10 : decide ((s.size : Int) < (p : Int) + 5 + k + 1 + mm) = false := decide_eq_false (by omega)
          by_cases h2 : k = 0
          · have g20 : ((k : Int) == 0) = true := beq_iff_eq.2 (by omega)
            have g21 : (k == 0) = true := beq_iff_eq.2 (by omega)
            have HBAD : Hid (o = none) := HBD.out (.inr (.inl h2))
            clear h1 h2
            go_wp2_with fail
            go_quiet (fail)
            go_wp2_with fail
            exact bodyPost_ret (v := .tuple #[.pointer none, .int .i64 10]) (by simp [results, Try.results116, go_sem]) rfl (HNO.out _ _ HBAD.out rfl (below_drewN HL5.out.below _))
          · have g20 : ((k : Int) == 0) = false := beq_eq_false_iff_ne.2 (by omega)
            have g21 : (k == 0) = false := beq_eq_false_iff_ne.2 (by omega)
            by_cases h3 : 8 < k
            · have g30 : decide ((8 : Int) < (k : Int)) = true := decide_eq_true (by omega)
              have HBAD : Hid (o = none) := HBD.out (.inr (.inr (.inl h3)))
              clear h1 h2 h3
              go_wp2_with fail
              go_quiet (fail)
              go_wp2_with fail
              exact bodyPost_ret (v := .tuple #[.pointer none, .int .i64 10]) (by simp [results, Try.results116, go_sem]) rfl (HNO.out _ _ HBAD.out rfl (below_drewN HL5.out.below _))
            · have g30 : decide ((8 : Int) < (k : Int)) = false := decide_eq_false (by omega)
              by_cases h4 : 8 < mm
              · have g40 : decide ((8 : Int) < (mm : Int)) = true := decide_eq_true (by omega)
                have HBAD : Hid (o = none) := HBD.out (.inr (.inr (.inr (.inl h4))))
                clear h1 h2 h3 h4
                go_wp2_with fail
                go_quiet (fail)
                go_wp2_with fail
                exact bodyPost_ret (v := .tuple #[.pointer none, .int .i64 10]) (by simp [results, Try.results116, go_sem]) rfl (HNO.out _ _ HBAD.out rfl (below_drewN HL5.out.below _))
              · have g40 : decide ((8 : Int) < (mm : Int)) = false := decide_eq_false (by omega)
                rcases gn with _ | _
                · by_cases h6 : (rv : Int) < 1
                  · have g60 : decide ((rv : Int) < 1) = true := decide_eq_true (by omega)
                    have HBAD : Hid (o = none) := HBD.out (.inr (.inr (.inr (.inr (.inr (.inl h6))))))
                    clear h1 h2 h3 h4 h6
                    go_wp2_with fail
                    go_quiet (fail)
                    go_wp2_with fail
                    exact bodyPost_ret (v := .tuple #[.pointer none, .int .i64 10]) (by simp [results, Try.results116, go_sem]) rfl (HNO.out _ _ HBAD.out rfl (below_drewN HL5.out.below _))
                  · have g60 : decide ((rv : Int) < 1) = false := decide_eq_false (by omega)
                    by_cases h7 : R < rv
                    · have g70 : decide ((R : Int) < (rv : Int)) = true := decide_eq_true (by omega)
                      have g71 : decide (R < rv) = true := decide_eq_true (by omega)
                      have HBAD : Hid (o = none) := HBD.out (.inr (.inr (.inr (.inr (.inr (.inr h7))))))
                      clear h1 h2 h3 h4 h6 h7
                      go_wp2_with fail
                      go_quiet (fail)
                      go_wp2_with fail
                      exact bodyPost_ret (v := .tuple #[.pointer none, .int .i64 10]) (by simp [results, Try.results116, go_sem]) rfl (HNO.out _ _ HBAD.out rfl (below_drewN HL5.out.below _))
                    · have g70 : decide ((R : Int) < (rv : Int)) = false := decide_eq_false (by omega)
                      have g71 : decide (R < rv) = false := decide_eq_false (by omega)
                      have HNB : Hid (¬ badV s.data.toList R p) := by
                        unfold badV
                        show ¬ _
                        rw [HVK.out.1, HVK.out.2.1, HVK.out.2.2.1, HVK.out.2.2.2, HSL.out]
                        rintro (h | h | h | h | ⟨ha, hb⟩ | h | h)
                        · omega
                        · omega
                        · omega
                        · omega
                        · cases ha
                        · simp only at h; omega
                        · simp only at h; omega
                      have hp2 : p + 5 + k + 1 + mm ≤ 100000009 := by have := hs1.out; omega
                      clear h1 h2 h3 h4 h6 h7
                      go_wp2_with fail
                      go_quiet (fail)
                      have HADDC := fun W (hW : Below w5.heap.size w5 W) => refAdd W q R Fl vl (List.replicate 9 zS) l (HL5.out.st.grown hW) (key, ⟨rv, txt, false⟩) (by omega)
                      have HADDH : Hid _ := HADDC
                      clear HADDC
                      go_wp2_with fail
                      refine (HADDH.out _ (by repeat (first | exact Below.refl _ _ | assumption | with_reducible refine below_drewN ?_ _ | refine Gr.ext ?_ _ | refine Gr.alloc ?_ _ | refine Gr.drew ?_ | (refine Gr.set ?_ (by first | (simp; done) | (simp; omega)) _)))).mono ?_
                      rintro e w6 (⟨hadd, rfl, hb6⟩ | ⟨l', vl', hadd, rfl, hR6, hv6, ht6⟩)
                      · have HBAD : Hid (o = none) := by show _ = _; rw [HT.out, rVers_none (by rw [HVK.out.2.2.2]; exact hadd)]; rfl
                        have HB6 : Hid (Below w1.heap.size w1 w6) := HL5.out.below.trans ((((by repeat (first | exact Below.refl _ _ | assumption | with_reducible refine below_drewN ?_ _ | refine Gr.ext ?_ _ | refine Gr.alloc ?_ _ | refine Gr.drew ?_ | (refine Gr.set ?_ (by first | (simp; done) | (simp; omega)) _))) : Below w5.heap.size w5 (w5.drewN nq)).trans hb6).mono HL5.out.below.size)
                        clear hadd hb6 HADDH
                        go_wp2_with fail
                        exact bodyPost_ret (v := .tuple #[.pointer none, .int .i64 10]) (by simp [results, Try.results116, go_sem]) rfl (HNO.out _ _ HBAD.out rfl HB6.out)
                      · have HT2 : Hid (o = tailV s.data.toList R Fl (rVers s.data.toList R n' (p + 5 + k + 1 + mm) l')) := by show _ = _; rw [HT.out, rVers_some HNB.out (by rw [HVK.out.2.2.2]; exact hadd), HVK.out.2.2.1]
                        have HL6 : Hid (LdR w1 w6 q R Fl vl' (List.replicate 9 zS) l') := HL5.out.add (by repeat (first | exact Below.refl _ _ | assumption | with_reducible refine below_drewN ?_ _ | refine Gr.ext ?_ _ | refine Gr.alloc ?_ _ | refine Gr.drew ?_ | (refine Gr.set ?_ (by first | (simp; done) | (simp; omega)) _))) hR6 hv6 ht6
                        have HMK2 : Hid (∀ x ∈ l', MayKV R x) := may_add hadd (by have h := not_bad HNB.out; rw [HVK.out.2.2.2] at h; exact h) HMK.out
                        have hll : l'.length + n' ≤ 16777216 := by have := (add_mem hadd).1.length_eq; rw [List.length_cons] at this; omega
                        clear hadd hR6 hv6 ht6 HADDH c0 c1 c2 cf v0 v1 v2 v3
                        go_wp2_with fail
                        exact ⟨⟨p + 5 + k + 1 + mm, n', l', vl', val_int (by omega), val_int (by omega), hp2, hll, HT2, HL6, HMK2⟩, by simp [intOf]⟩
                · by_cases h5 : 0 < mm
                  · have g50 : decide ((0 : Int) < (mm : Int)) = true := decide_eq_true (by omega)
                    have g51 : decide (0 < mm) = true := decide_eq_true (by omega)
                    have HBAD : Hid (o = none) := HBD.out (.inr (.inr (.inr (.inr (.inl ⟨rfl, h5⟩)))))
                    clear h1 h2 h3 h4 h5
                    go_wp2_with fail
                    go_quiet (fail)
                    go_wp2_with fail
                    exact bodyPost_ret (v := .tuple #[.pointer none, .int .i64 10]) (by simp [results, Try.results116, go_sem]) rfl (HNO.out _ _ HBAD.out rfl (below_drewN HL5.out.below _))
                  · have g50 : decide ((0 : Int) < (mm : Int)) = false := decide_eq_false (by omega)
                    have g51 : decide (0 < mm) = false := decide_eq_false (by omega)
                    by_cases h6 : (rv : Int) < 1
                    · have g60 : decide ((rv : Int) < 1) = true := decide_eq_true (by omega)
                      have HBAD : Hid (o = none) := HBD.out (.inr (.inr (.inr (.inr (.inr (.inl h6))))))
                      clear h1 h2 h3 h4 h5 h6
                      go_wp2_with fail
                      go_quiet (fail)
                      go_wp2_with fail
                      exact bodyPost_ret (v := .tuple #[.pointer none, .int .i64 10]) (by simp [results, Try.results116, go_sem]) rfl (HNO.out _ _ HBAD.out rfl (below_drewN HL5.out.below _))
                    · have g60 : decide ((rv : Int) < 1) = false := decide_eq_false (by omega)
                      by_cases h7 : R < rv
                      · have g70 : decide ((R : Int) < (rv : Int)) = true := decide_eq_true (by omega)
                        have g71 : decide (R < rv) = true := decide_eq_true (by omega)
                        have HBAD : Hid (o = none) := HBD.out (.inr (.inr (.inr (.inr (.inr (.inr h7))))))
                        clear h1 h2 h3 h4 h5 h6 h7
                        go_wp2_with fail
                        go_quiet (fail)
                        go_wp2_with fail
                        exact bodyPost_ret (v := .tuple #[.pointer none, .int .i64 10]) (by simp [results, Try.results116, go_sem]) rfl (HNO.out _ _ HBAD.out rfl (below_drewN HL5.out.below _))
                      · have g70 : decide ((R : Int) < (rv : Int)) = false := decide_eq_false (by omega)
                        have g71 : decide (R < rv) = false := decide_eq_false (by omega)
                        have HNB : Hid (¬ badV s.data.toList R p) := by
                          unfold badV
                          show ¬ _
                          rw [HVK.out.1, HVK.out.2.1, HVK.out.2.2.1, HVK.out.2.2.2, HSL.out]
                          rintro (h | h | h | h | ⟨ha, hb⟩ | h | h)
                          · omega
                          · omega
                          · omega
                          · omega
                          · omega
                          · simp only at h; omega
                          · simp only at h; omega
                        have hp2 : p + 5 + k + 1 + mm ≤ 100000009 := by have := hs1.out; omega
                        clear h1 h2 h3 h4 h5 h6 h7
                        go_wp2_with fail
                        go_quiet (fail)
                        have HADDC := fun W (hW : Below w5.heap.size w5 W) => refAdd W q R Fl vl (List.replicate 9 zS) l (HL5.out.st.grown hW) (key, ⟨rv, txt, true⟩) (by omega)
                        have HADDH : Hid _ := HADDC
                        clear HADDC
                        go_wp2_with fail
                        refine (HADDH.out _ (by repeat (first | exact Below.refl _ _ | assumption | with_reducible refine below_drewN ?_ _ | refine Gr.ext ?_ _ | refine Gr.alloc ?_ _ | refine Gr.drew ?_ | (refine Gr.set ?_ (by first | (simp; done) | (simp; omega)) _)))).mono ?_
                        rintro e w6 (⟨hadd, rfl, hb6⟩ | ⟨l', vl', hadd, rfl, hR6, hv6, ht6⟩)
                        · have HBAD : Hid (o = none) := by show _ = _; rw [HT.out, rVers_none (by rw [HVK.out.2.2.2]; exact hadd)]; rfl
                          have HB6 : Hid (Below w1.heap.size w1 w6) := HL5.out.below.trans ((((by repeat (first | exact Below.refl _ _ | assumption | with_reducible refine below_drewN ?_ _ | refine Gr.ext ?_ _ | refine Gr.alloc ?_ _ | refine Gr.drew ?_ | (refine Gr.set ?_ (by first | (simp; done) | (simp; omega)) _))) : Below w5.heap.size w5 (w5.drewN nq)).trans hb6).mono HL5.out.below.size)
                          clear hadd hb6 HADDH
                          go_wp2_with fail
                          exact bodyPost_ret (v := .tuple #[.pointer none, .int .i64 10]) (by simp [results, Try.results116, go_sem]) rfl (HNO.out _ _ HBAD.out rfl HB6.out)
                        · have HT2 : Hid (o = tailV s.data.toList R Fl (rVers s.data.toList R n' (p + 5 + k + 1 + mm) l')) := by show _ = _; rw [HT.out, rVers_some HNB.out (by rw [HVK.out.2.2.2]; exact hadd), HVK.out.2.2.1]
                          have HL6 : Hid (LdR w1 w6 q R Fl vl' (List.replicate 9 zS) l') := HL5.out.add (by repeat (first | exact Below.refl _ _ | assumption | with_reducible refine below_drewN ?_ _ | refine Gr.ext ?_ _ | refine Gr.alloc ?_ _ | refine Gr.drew ?_ | (refine Gr.set ?_ (by first | (simp; done) | (simp; omega)) _))) hR6 hv6 ht6
                          have HMK2 : Hid (∀ x ∈ l', MayKV R x) := may_add hadd (by have h := not_bad HNB.out; rw [HVK.out.2.2.2] at h; exact h) HMK.out
                          have hll : l'.length + n' ≤ 16777216 := by have := (add_mem hadd).1.length_eq; rw [List.length_cons] at this; omega
                          clear hadd hR6 hv6 ht6 HADDH c0 c1 c2 cf v0 v1 v2 v3
                          go_wp2_with fail
                          exact ⟨⟨p + 5 + k + 1 + mm, n', l', vl', val_int (by omega), val_int (by omega), hp2, hll, HT2, HL6, HMK2⟩, by simp [intOf]⟩
end Go.Proofs.Ytcbbnmodjnnbeaa
