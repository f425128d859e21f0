/- The walk of Load. -/
import Derived.Test.YtcbbnmodjnnbeaaLdLoop
import Derived.Test.YtcbbnmodjnnbeaaLdMay
import Derived.Test.YtcbbnmodjnnbeaaNewW
import Derived.BigQuiet
set_option linter.unusedSimpArgs false
set_option linter.unusedVariables false
namespace Go.Proofs.Ytcbbnmodjnnbeaa
open Go.RowKit

structure LdRaw (w0 W : World) (p b : Nat) (D : DataW Value) (r n f : Nat) (l : List UInt8) (bb : Bool) : Prop where
  blk : W.heap[p]? = some (.cells ((St.start n f).cells b) 141)
  map : HMap W p b D (fun _ => [])
  rd : RdAt W r l bb
  rf : ¬ footS p b D r
  sz : Maps.size D = 0
  new : ∀ x, footS p b D x → w0.heap.size ≤ x
  rnew : w0.heap.size ≤ r
  below : Below w0.heap.size w0 W
theorem LdRaw.rdStep {w0 wr W : World} {p b : Nat} {D : DataW Value} {r n f : Nat} {l l' : List UInt8} {bb b' : Bool} (h : LdRaw w0 wr p b D r n f l bb) (hr : RdAt W r l' b') (hg : wr.grownBy W (some r)) : LdRaw w0 W p b D r n f l' b' := by
  have hk : ∀ x, x < wr.heap.size → x ≠ r → W.heap[x]? = wr.heap[x]? := fun x hx hn => hg.block x hx fun e => hn (Option.some.inj e)
  have hp : p < wr.heap.size := (Array.getElem?_eq_some_iff.1 h.blk).1
  have hb := h.below
  exact ⟨(hk p hp fun e => h.rf (.inl e.symm)).trans h.blk, h.map.keep fun x hx => hk x (h.map.foot_lt hx) fun e => h.rf (.inr (e ▸ hx)), hr, h.rf, h.sz, h.new, h.rnew, hb.trans ⟨hg.os, hg.tape, hg.output, hg.size, fun k hkk => hk k (Nat.lt_of_lt_of_le hkk hb.size) fun e => by have := h.rnew; omega⟩⟩
theorem LdRaw.grow {w0 wr W : World} {p b : Nat} {D : DataW Value} {r n f : Nat} {l : List UInt8} {bb : Bool} (h : LdRaw w0 wr p b D r n f l bb) (hb : Below wr.heap.size wr W) : LdRaw w0 W p b D r n f l bb :=
  h.rdStep (h.rd.keep (hb.block r h.rd.lt)) ⟨hb.os, hb.tape, hb.output, hb.size, fun k hk _ => hb.block k hk⟩
theorem LdRaw.setP {w0 wr : World} {p b : Nat} {D : DataW Value} {r n f : Nat} {l : List UInt8} {bb : Bool} (h : LdRaw w0 wr p b D r n f l bb) (o : Nat) (v : Value) (n' f' : Nat) (he : ((St.start n f).cells b).setIfInBounds o v = (St.start n' f').cells b) : LdRaw w0 (wr.setCell ⟨p, o, none⟩ v) p b D r n' f' l bb := by
  have hne : r ≠ p := fun e => h.rf (.inl e)
  have hnp : ∀ x, footM b D x → x ≠ p := fun x hx => by
    rcases hx with rfl | ⟨k, v, hv, hx⟩
    · intro e
      obtain ⟨es, clock, h1, _⟩ := h.map.map
      have := h.blk
      rw [← e, h1] at this
      cases this
    · exact (h.map.off k v x hv hx).2
  have hpw : w0.heap.size ≤ p := h.new p (.inl rfl)
  refine ⟨?_, h.map.keep fun x hx => ?_, h.rd.keep ?_, h.rf, h.sz, h.new, h.rnew, h.below.trans ⟨rfl, rfl, rfl, by simp, fun k hk => Below.heap_setCell _ _ _ _ (by simp only; omega)⟩⟩
  · rw [setCell_heapB, if_pos rfl, h.blk]
    show some _ = some _
    rw [← he]
  · rw [setCell_heapB, if_neg (hnp x hx)]
  · rw [setCell_heapB, if_neg hne]
theorem start_rev (n f b n' : Nat) : ((St.start n f).cells b).setIfInBounds 0 (.int .i64 n') = (St.start n' f).cells b := by
  unfold St.cells; rw [List.setIfInBounds_toArray]; rfl
theorem start_floor (n f b f' : Nat) : ((St.start n f).cells b).setIfInBounds 1 (.int .i64 f') = (St.start n f').cells b := by
  unfold St.cells; rw [List.setIfInBounds_toArray]; rfl
theorem LdRaw.at {w0 W : World} {p b : Nat} {D : DataW Value} {r n f : Nat} {l : List UInt8} {bb : Bool} (h : LdRaw w0 W p b D r n f l bb) (h1 : n ≤ 1000000) (h2 : f ≤ n) : StoreAt W p b D (St.start n f) :=
  ⟨h.blk, h.map, ⟨h1, h2, fun k => List.Pairwise.nil, (fun k v hv => by cases hv), rfl⟩, by rw [h.sz]; exact Nat.zero_le _⟩
theorem load1 {l : List UInt8} {R F : Nat × List UInt8 × Bool} (hR : numL l false = R) (hF : numL R.2.1 R.2.2 = F) (h : ¬ (R.1 ≤ 1000000 ∧ F.1 ≤ R.1)) : loadS l = none := by
  unfold loadS
  rw [hR]; simp only; rw [hF, if_neg h]
theorem load2 {l : List UInt8} {R F : Nat × List UInt8 × Bool} (hR : numL l false = R) (hF : numL R.2.1 R.2.2 = F) (h : R.1 ≤ 1000000 ∧ F.1 ≤ R.1) (h2 : takeV (numL F.2.1 F.2.2).1 (St.start R.1 F.1) [] ⟨#[]⟩ (numL F.2.1 F.2.2).2.1 (numL F.2.1 F.2.2).2.2 = none) : loadS l = none := by
  unfold loadS
  rw [hR]; simp only; rw [hF, if_pos h, h2]
theorem load3 {l : List UInt8} {R F : Nat × List UInt8 × Bool} (hR : numL l false = R) (hF : numL R.2.1 R.2.2 = F) (h : R.1 ≤ 1000000 ∧ F.1 ≤ R.1) {s1 : St} {l1 : List UInt8} {b1 : Bool} (h2 : takeV (numL F.2.1 F.2.2).1 (St.start R.1 F.1) [] ⟨#[]⟩ (numL F.2.1 F.2.2).2.1 (numL F.2.1 F.2.2).2.2 = some (s1, l1, b1)) (h3 : takeS 8 0 s1 l1 b1 = none) : loadS l = none := by
  unfold loadS
  rw [hR]; simp only; rw [hF, if_pos h, h2]; simp only; rw [h3]
theorem load4 {l : List UInt8} {R F : Nat × List UInt8 × Bool} (hR : numL l false = R) (hF : numL R.2.1 R.2.2 = F) (h : R.1 ≤ 1000000 ∧ F.1 ≤ R.1) {s1 s2 : St} {l1 l2 : List UInt8} {b1 b2 : Bool} (h2 : takeV (numL F.2.1 F.2.2).1 (St.start R.1 F.1) [] ⟨#[]⟩ (numL F.2.1 F.2.2).2.1 (numL F.2.1 F.2.2).2.2 = some (s1, l1, b1)) (h3 : takeS 8 0 s1 l1 b1 = some (s2, l2, b2)) : loadS l = if b2 = false ∧ l2 = [] then some s2 else none := by
  unfold loadS
  rw [hR]; simp only; rw [hF, if_pos h, h2]; simp only; rw [h3]
set_option maxRecDepth 100000 in
set_option maxHeartbeats 80000000 in
theorem storeLoad (w : World) (s : ByteArray) (hs : s.size ≤ maxLen) :
    Calls Try.prog 35 #[.string s] w fun e w' => Below w.heap.size w w' ∧ ∃ o, Hid (o = loadS s.data.toList) ∧ ((o = none ∧ e = .returned (.tuple #[.pointer none, .int .i64 10])) ∨ ∃ st p b D, o = some st ∧ e = .returned (.tuple #[.pointer (some ⟨p, 0, none⟩), .int .i64 0]) ∧ StoreAt w' p b D st ∧ ∀ x, footS p b D x → w.heap.size ≤ x) := by
  obtain ⟨l, hl⟩ : ∃ l, s.data.toList = l := ⟨_, rfl⟩
  have hsB : s = B l := by rw [← hl, B_eta]
  subst hsB
  rw [B_size] at hs
  clear hl
  obtain ⟨res, hres⟩ : ∃ res, loadS l = res := ⟨_, rfl⟩
  have HRS : Hid (loadS (B l).data.toList = res) := hres
  have HRES : Hid (loadS l = res) := hres
  have HS : Hid (l.length ≤ maxLen) := hs
  clear hres hs
  go_enter Try.func35, Try.ntmps35
  go_wp2_with fail
  refine (newReader _ _).mono ?_
  rintro e w1 ⟨rfl, rfl⟩
  go_wp2_with fail
  refine (storeNew _).mono ?_
  rintro e w2 ⟨p, b, D, rfl, hS, hF, hB⟩
  have HI2 : Hid (LdRaw w w2 p b D w.heap.size 0 0 l false) := by
    have hF' : ∀ x, footS p b D x → w.heap.size + 1 ≤ x := fun x hx => by have := hF x hx; simpa using this
    refine ⟨hS.blk, hS.map, (rdNew w _ l false rfl).keep (hB.block _ (by simp)), fun hf => by have := hF' _ hf; omega, by have := hS.sz; exact Nat.le_zero.1 this, fun x hx => by have := hF' x hx; omega, Nat.le_refl _, ?_⟩
    exact (Gr.alloc (Below.refl _ _) _).trans (hB.mono (by simp))
  obtain ⟨r, hr⟩ : ∃ r, w.heap.size = r := ⟨_, rfl⟩
  rw [hr] at HI2 ⊢
  clear hS hF hB hr
  obtain ⟨R, hR⟩ : ∃ R, numL l false = R := ⟨_, rfl⟩
  have HR : Hid (numL l false = R) := hR
  have HRL : Hid (R.2.1.length ≤ maxLen) := by show _ ≤ _; rw [← hR]; exact Nat.le_trans (numL_len l false) HS.out
  have hR24 : R.1 < 16777216 := by rw [← hR]; exact numL_lt l false
  obtain ⟨F, hF⟩ : ∃ F, numL R.2.1 R.2.2 = F := ⟨_, rfl⟩
  have HF : Hid (numL R.2.1 R.2.2 = F) := hF
  have HFL : Hid (F.2.1.length ≤ maxLen) := by show _ ≤ _; rw [← hF]; exact Nat.le_trans (numL_len _ _) HRL.out
  have hF24 : F.1 < 16777216 := by rw [← hF]; exact numL_lt _ _
  clear hR hF
  have hp2 : p < w2.heap.size := (Array.getElem?_eq_some_iff.1 HI2.out.blk).1
  obtain ⟨c0, c1, c2, cf⟩ := st_cells HI2.out.blk
  go_wp2_with fail
  refine (readerNumber r l false w2 HI2.out.rd HS.out).mono ?_
  rintro e w3 ⟨rfl, hr3, hg3⟩
  rw [HR.out] at hr3 ⊢
  have HI3 : Hid (LdRaw w w3 p b D r 0 0 R.2.1 R.2.2) := HI2.out.rdStep hr3 hg3
  have HP3 : Hid (LdRaw w (w3.setCell ⟨p, 0, none⟩ (.int .i64 (R.1 : Int))) p b D r R.1 0 R.2.1 R.2.2) := HI3.out.setP 0 _ R.1 0 (start_rev 0 0 b R.1)
  have hp3 : p < w3.heap.size := (Array.getElem?_eq_some_iff.1 HI3.out.blk).1
  clear c0 c1 c2 cf hp2 hr3 hg3 HI2
  obtain ⟨c0, c1, c2, cf⟩ := st_cells HI3.out.blk
  go_wp2_with fail
  refine (readerNumber r R.2.1 R.2.2 _ HP3.out.rd HRL.out).mono ?_
  rintro e w4 ⟨rfl, hr4, hg4⟩
  rw [HF.out] at hr4 ⊢
  have HI4 : Hid (LdRaw w w4 p b D r R.1 0 F.2.1 F.2.2) := HP3.out.rdStep hr4 hg4
  have HP4 : Hid (LdRaw w (w4.setCell ⟨p, 1, none⟩ (.int .i64 (F.1 : Int))) p b D r R.1 F.1 F.2.1 F.2.2) := HI4.out.setP 1 _ R.1 F.1 (start_floor R.1 0 b F.1)
  have hp4 : p < w4.heap.size := (Array.getElem?_eq_some_iff.1 HI4.out.blk).1
  clear c0 c1 c2 cf hp3 hr4 hg4 HI3 HP3
  obtain ⟨c0, c1, c2, cf⟩ := st_cells HI4.out.blk
  go_wp2_with fail
  refine world_any (F := fun W => LdRaw w W p b D r R.1 F.1 F.2.1 F.2.2) HP4.out ?_
  rintro w5 HI5'
  have HI5 : Hid (LdRaw w w5 p b D r R.1 F.1 F.2.1 F.2.2) := HI5'
  clear HI5' HP4 HI4 c0 c1 c2 cf hp4
  obtain ⟨nk, hnk⟩ : ∃ nk, numB R.1 = nk := ⟨_, rfl⟩
  have HNK : Hid (numB R.1 = nk) := hnk
  have HNUM : Hid (∀ W, Calls Try.prog 79 #[.int .i64 R.1] W fun e w' => e = .returned (.bool nk) ∧ w' = W) := fun W => (checkNumber R.1 W).mono fun e w' ⟨h1, h2⟩ => ⟨by rw [h1, HNK.out], h2⟩
  clear hnk
  have hp5 : p < w5.heap.size := (Array.getElem?_eq_some_iff.1 HI5.out.blk).1
  obtain ⟨c0', c1', c2, cf⟩ := st_cells HI5.out.blk
  have c0 : w5.cell? ⟨p, 0, none⟩ = some (.int .i64 (R.1 : Int)) := c0'
  have c1 : w5.cell? ⟨p, 1, none⟩ = some (.int .i64 (F.1 : Int)) := c1'
  clear c0' c1'
  have HNO : Hid (∀ (W : World) (e : Ending), Below w.heap.size w W → loadS l = none → e = .returned (.tuple #[.pointer none, .int .i64 10]) → Below w.heap.size w W ∧ ∃ o, Hid (o = loadS (B l).data.toList) ∧ ((o = none ∧ e = .returned (.tuple #[.pointer none, .int .i64 10])) ∨ ∃ st p b D, o = some st ∧ e = .returned (.tuple #[.pointer (some ⟨p, 0, none⟩), .int .i64 0]) ∧ StoreAt W p b D st ∧ ∀ x, footS p b D x → w.heap.size ≤ x)) := fun W e hb hn he => ⟨hb, none, hn.symm, .inl ⟨rfl, he⟩⟩
  cases nk
  · have HN : Hid (loadS l = none) := load1 HR.out HF.out (fun h => by have := HNK.out; unfold numB at this; simp at this; omega)
    go_quiet (exact Calls.quiet_of_same (HNUM.out _))
    clear c0 c1 c2 cf hp5
    have HBW : Hid (Below w.heap.size w (w5.drewN nq)) := (HI5.out.grow (by repeat (first | exact Below.refl _ _ | assumption | with_reducible refine below_drewN ?_ _ | refine Gr.ext ?_ _ | refine Gr.alloc ?_ _ | refine Gr.drew ?_ | (refine Gr.set ?_ (by first | (simp; done) | (simp; omega)) _)))).below
    go_wp2_with fail
    exact bodyPost_ret (v := .tuple #[.pointer none, .int .i64 10]) (by simp [results, Try.results35, go_sem]) rfl ⟨HBW.out, none, HN.out.symm, .inl ⟨rfl, rfl⟩⟩
  · have HR6 : Hid (R.1 ≤ 1000000) := by have := HNK.out; unfold numB at this; simp at this; show _ ≤ _; omega
    have HLC : Hid (F.1 ≤ R.1 ∨ ¬ F.1 ≤ R.1) := Classical.em _
    rcases HLC.out with hle | hle
    · have hle2 : (F.1 : Int) ≤ R.1 := by omega
      have HLE : Hid (F.1 ≤ R.1) := hle
      clear hle HLC
      go_quiet (exact Calls.quiet_of_same (HNUM.out _))
      have HI6 : Hid (LdRaw w (w5.drewN nq) p b D r R.1 F.1 F.2.1 F.2.2) := HI5.out.grow (by repeat (first | exact Below.refl _ _ | assumption | with_reducible refine below_drewN ?_ _ | refine Gr.ext ?_ _ | refine Gr.alloc ?_ _ | refine Gr.drew ?_ | (refine Gr.set ?_ (by first | (simp; done) | (simp; omega)) _)))
      clear c0 c1 c2 cf hp5 hle2 HI5
      go_wp2_with fail
      refine (takeVersions _ p b D (St.start R.1 F.1) r F.2.1 F.2.2 (HI6.out.at HR6.out HLE.out) HI6.out.rd HFL.out (fun _ => rfl) HI6.out.sz HI6.out.rf mayHave).mono ?_
      rintro e w7 ⟨ht7, o, ho, hcase⟩
      have HB7 : Hid (Below w.heap.size w w7) := HI6.out.below.trans ⟨ht7.os, ht7.tape, ht7.output, ht7.size, fun k hk => ht7.block k (Nat.lt_of_lt_of_le hk HI6.out.below.size) fun e => by
        rcases e with e | e
        · have := HI6.out.new k e; omega
        · have := HI6.out.rnew; omega⟩
      have HO : Hid (o = takeV (numL F.2.1 F.2.2).1 (St.start R.1 F.1) [] ⟨#[]⟩ (numL F.2.1 F.2.2).2.1 (numL F.2.1 F.2.2).2.2) := ho
      rcases hcase with ⟨h0, rfl⟩ | ⟨s1, l1, b1, D1, h1, rfl, hS1, hF1, hr1, hl1, hf1⟩
      · have HN : Hid (loadS l = none) := load2 HR.out HF.out ⟨HR6.out, HLE.out⟩ (by rw [← HO.out, h0])
        clear ht7 ho h0
        go_wp2_with fail
        exact bodyPost_ret (v := .tuple #[.pointer none, .int .i64 10]) (by simp [results, Try.results35, go_sem]) rfl ⟨HB7.out, none, HN.out.symm, .inl ⟨rfl, rfl⟩⟩
      · have HS1 : Hid (StoreAt w7 p b D1 s1 ∧ RdAt w7 r l1 b1 ∧ l1.length ≤ maxLen ∧ ¬ footS p b D1 r) := ⟨hS1, hr1, hl1, hf1⟩
        have HG1 : Hid (∀ x, footS p b D1 x → w.heap.size ≤ x) := fun x hx => by
          rcases hx with rfl | hx
          · exact HI6.out.new x (.inl rfl)
          · rcases hF1 x hx with h4 | h4
            · exact HI6.out.new x (.inr h4)
            · have := HI6.out.below.size; omega
        have HO1 : Hid (takeV (numL F.2.1 F.2.2).1 (St.start R.1 F.1) [] ⟨#[]⟩ (numL F.2.1 F.2.2).2.1 (numL F.2.1 F.2.2).2.2 = some (s1, l1, b1)) := by show _ = _; rw [← HO.out, h1]
        have HRN : Hid (w.heap.size ≤ r) := HI6.out.rnew
        clear ht7 ho h1 hS1 hF1 hr1 hl1 hf1 HI6 HO
        go_wp2_with fail
        refine (takeSessions _ p b D1 s1 r l1 b1 HS1.out.1 HS1.out.2.1 HS1.out.2.2.1 HS1.out.2.2.2).mono ?_
        rintro e w8 ⟨ht8, o, ho, hcase⟩
        have HB8 : Hid (Below w.heap.size w w8) := HB7.out.trans ⟨ht8.os, ht8.tape, ht8.output, ht8.size, fun k hk => ht8.block k (Nat.lt_of_lt_of_le hk HB7.out.size) fun e => by
          rcases e with e | e
          · have := HG1.out k e; omega
          · have := HRN.out; omega⟩
        have HO8 : Hid (o = takeS 8 0 s1 l1 b1) := ho
        rcases hcase with ⟨h0, rfl⟩ | ⟨s2, l2, b2, h1, rfl, hS2, hr2, hl2⟩
        · have HN : Hid (loadS l = none) := load3 HR.out HF.out ⟨HR6.out, HLE.out⟩ HO1.out (by rw [← HO8.out, h0])
          clear ht8 ho h0
          go_wp2_with fail
          exact bodyPost_ret (v := .tuple #[.pointer none, .int .i64 10]) (by simp [results, Try.results35, go_sem]) rfl ⟨HB8.out, none, HN.out.symm, .inl ⟨rfl, rfl⟩⟩
        · have HL4 : Hid (loadS l = if b2 = false ∧ l2 = [] then some s2 else none) := load4 HR.out HF.out ⟨HR6.out, HLE.out⟩ HO1.out (by rw [← HO8.out, h1])
          have HS2 : Hid (StoreAt w8 p b D1 s2) := hS2
          have HR2 : Hid (RdAt w8 r l2 b2) := hr2
          clear ht8 ho h1 hS2 hr2 hl2
          go_wp2_with fail
          refine (readerDone r l2 b2 w8 HR2.out).mono ?_
          rintro e w9 ⟨rfl, rfl⟩
          cases hb : (!b2 && l2.isEmpty)
          · have HN : Hid (loadS l = none) := by
              show _ = _
              rw [HL4.out, if_neg]
              rintro ⟨h1, h2⟩
              rw [h1, h2] at hb
              cases hb
            clear hb
            go_wp2_with fail
            exact bodyPost_ret (v := .tuple #[.pointer none, .int .i64 10]) (by simp [results, Try.results35, go_sem]) rfl ⟨HB8.out, none, HN.out.symm, .inl ⟨rfl, rfl⟩⟩
          · have HSM : Hid (loadS l = some s2) := by
              show _ = _
              simp only [Bool.and_eq_true, Bool.not_eq_true', List.isEmpty_iff] at hb
              rw [HL4.out, if_pos hb]
            clear hb
            go_wp2_with fail
            exact bodyPost_ret (v := .tuple #[.pointer (some ⟨p, 0, none⟩), .int .i64 0]) (by simp [results, Try.results35, go_sem]) rfl ⟨HB8.out, some s2, HSM.out.symm, .inr ⟨s2, p, b, D1, rfl, rfl, HS2.out, HG1.out⟩⟩
    · have hle2 : ¬ ((F.1 : Int) ≤ R.1) := by omega
      have HN : Hid (loadS l = none) := load1 HR.out HF.out (fun h => hle h.2)
      clear hle HLC
      go_quiet (exact Calls.quiet_of_same (HNUM.out _))
      have HBW : Hid (Below w.heap.size w (w5.drewN nq)) := (HI5.out.grow (by repeat (first | exact Below.refl _ _ | assumption | with_reducible refine below_drewN ?_ _ | refine Gr.ext ?_ _ | refine Gr.alloc ?_ _ | refine Gr.drew ?_ | (refine Gr.set ?_ (by first | (simp; done) | (simp; omega)) _)))).below
      clear c0 c1 c2 cf hp5
      go_wp2_with fail
      exact bodyPost_ret (v := .tuple #[.pointer none, .int .i64 10]) (by simp [results, Try.results35, go_sem]) rfl ⟨HBW.out, none, HN.out.symm, .inl ⟨rfl, rfl⟩⟩
end Go.Proofs.Ytcbbnmodjnnbeaa
