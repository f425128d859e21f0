/- The walk of the law on stores that are saved and loaded. -/
import Derived.Test.YtcbbnmodjnnbeaaLoadW
import Derived.Test.YtcbbnmodjnnbeaaTab
import Derived.Test.YtcbbnmodjnnbeaaSameRes
import Derived.Deep.DeepMust
set_option linter.unusedSimpArgs false
set_option linter.unusedVariables false
namespace Go.Proofs.Ytcbbnmodjnnbeaa
open Go.RowKit

/-- One store, made behind the beginning. -/
structure OneS (w0 W : World) (p b : Nat) (D : DataW Value) (s : St) : Prop where
  store : StoreAt W p b D s
  sge : ∀ x, footS p b D x → w0.heap.size ≤ x
  below : Below w0.heap.size w0 W
theorem OneS.grow {w0 wr W : World} {p b : Nat} {D : DataW Value} {s : St} (h : OneS w0 wr p b D s) (hb : Below wr.heap.size wr W) : OneS w0 W p b D s :=
  ⟨h.store.grown hb, h.sge, h.below.trans (hb.mono h.below.size)⟩
theorem OneS.act {w0 wr W : World} {p b : Nat} {D D' : DataW Value} {s s' : St} (h : OneS w0 wr p b D s) (h1 : StoreAt W p b D' s') (h2 : ∀ x, footM b D' x → footM b D x ∨ wr.heap.size ≤ x) (h3 : wr.turned W (footS p b D)) : OneS w0 W p b D' s' := by
  have hb := h.below.size
  refine ⟨h1, fun x hx => ?_, h.below.trans ⟨h3.os, h3.tape, h3.output, h3.size, fun k hk => h3.block k (by omega) fun e => by have := h.sge k e; omega⟩⟩
  rcases hx with rfl | hx
  · exact h.sge x (.inl rfl)
  · rcases h2 x hx with h4 | h4
    · exact h.sge x (.inr h4)
    · omega
theorem StoreAt.beside {wr W : World} {p b : Nat} {D : DataW Value} {s : St} (h : StoreAt wr p b D s) {S : Nat → Prop} (ht : wr.turned W S) (hn : ∀ x, footS p b D x → ¬ S x) : StoreAt W p b D s :=
  ⟨(ht.block p (Array.getElem?_eq_some_iff.1 h.blk).1 (hn p (.inl rfl))).trans h.blk, h.map.keep fun x hx => ht.block x (h.map.foot_lt hx) (hn x (.inr hx)), h.good, h.sz⟩
/-- Two stores beside each other, and a list of commands. -/
structure TwoS (w0 W : World) (p b : Nat) (D : DataW Value) (s : St) (p2 b2 : Nat) (D2 : DataW Value) (s2 : St) (v : Value) (ls : List Cmd) : Prop where
  st1 : StoreAt W p b D s
  st2 : StoreAt W p2 b2 D2 s2
  dis : ∀ x, footS p b D x → ¬ footS p2 b2 D2 x
  sge1 : ∀ x, footS p b D x → w0.heap.size ≤ x
  sge2 : ∀ x, footS p2 b2 D2 x → w0.heap.size ≤ x
  own : W.ownL 23 7 v (ls.map Cmd.cells)
  off1 : ∀ x, v.ownBlock = some x → ¬ footS p b D x
  off2 : ∀ x, v.ownBlock = some x → ¬ footS p2 b2 D2 x
  below : Below w0.heap.size w0 W
section
variable {w0 wr W : World} {p b p2 b2 : Nat} {D D' D2 D2' : DataW Value} {s s' s2 s2' : St} {v : Value} {ls : List Cmd}
theorem TwoS.grow (h : TwoS w0 wr p b D s p2 b2 D2 s2 v ls) (hb : Below wr.heap.size wr W) : TwoS w0 W p b D s p2 b2 D2 s2 v ls :=
  ⟨h.st1.grown hb, h.st2.grown hb, h.dis, h.sge1, h.sge2, h.own.keep fun x hx => hb.block x (h.own.lt hx), h.off1, h.off2, h.below.trans (hb.mono h.below.size)⟩
theorem TwoS.act1 (h : TwoS w0 wr p b D s p2 b2 D2 s2 v ls) (h1 : StoreAt W p b D' s') (h2 : ∀ x, footM b D' x → footM b D x ∨ wr.heap.size ≤ x) (h3 : wr.turned W (footS p b D)) : TwoS w0 W p b D' s' p2 b2 D2 s2 v ls := by
  have hb := h.below.size
  have hf : ∀ x, footS p b D' x → footS p b D x ∨ wr.heap.size ≤ x := fun x hx => by
    rcases hx with rfl | hx
    · exact .inl (.inl rfl)
    · rcases h2 x hx with h4 | h4
      · exact .inl (.inr h4)
      · exact .inr h4
  refine ⟨h1, h.st2.beside h3 fun x hx hx1 => h.dis x hx1 hx, fun x hx hx2 => ?_, fun x hx => ?_, h.sge2, h.own.keep fun x hx => h3.block x (h.own.lt hx) (h.off1 x hx), fun x hx hx1 => ?_, h.off2, h.below.trans ⟨h3.os, h3.tape, h3.output, h3.size, fun k hk => h3.block k (by omega) fun e => by have := h.sge1 k e; omega⟩⟩
  · rcases hf x hx with h4 | h4
    · exact h.dis x h4 hx2
    · have := h.st2.foot_lt hx2; omega
  · rcases hf x hx with h4 | h4
    · exact h.sge1 x h4
    · omega
  · rcases hf x hx1 with h4 | h4
    · exact h.off1 x hx h4
    · have := h.own.lt hx; omega
theorem TwoS.act2 (h : TwoS w0 wr p b D s p2 b2 D2 s2 v ls) (h1 : StoreAt W p2 b2 D2' s2') (h2 : ∀ x, footM b2 D2' x → footM b2 D2 x ∨ wr.heap.size ≤ x) (h3 : wr.turned W (footS p2 b2 D2)) : TwoS w0 W p b D s p2 b2 D2' s2' v ls := by
  have hb := h.below.size
  have hf : ∀ x, footS p2 b2 D2' x → footS p2 b2 D2 x ∨ wr.heap.size ≤ x := fun x hx => by
    rcases hx with rfl | hx
    · exact .inl (.inl rfl)
    · rcases h2 x hx with h4 | h4
      · exact .inl (.inr h4)
      · exact .inr h4
  refine ⟨h.st1.beside h3 fun x hx hx1 => h.dis x hx hx1, h1, fun x hx hx2 => ?_, h.sge1, fun x hx => ?_, h.own.keep fun x hx => h3.block x (h.own.lt hx) (h.off2 x hx), h.off1, fun x hx hx1 => ?_, h.below.trans ⟨h3.os, h3.tape, h3.output, h3.size, fun k hk => h3.block k (by omega) fun e => by have := h.sge2 k e; omega⟩⟩
  · rcases hf x hx2 with h4 | h4
    · exact h.dis x hx h4
    · have := h.st1.foot_lt hx; omega
  · rcases hf x hx with h4 | h4
    · exact h.sge2 x h4
    · omega
  · rcases hf x hx1 with h4 | h4
    · exact h.off2 x hx h4
    · have := h.own.lt hx; omega
end
theorem save_fix (s : St) : ∃ L, ∀ ks, KeysIn s ks → saveL s ks = L := by
  by_cases h : ∃ ks, KeysIn s ks
  · obtain ⟨ks, hk⟩ := h
    exact ⟨saveL s ks, fun ks' hk' => by rw [saveL_same hk' hk]⟩
  · exact ⟨[], fun ks hk => absurd ⟨ks, hk⟩ h⟩
theorem saveL_len {s : St} (hB : Bnd s) {ks : List ByteArray} (hk : KeysIn s ks) : 9 ≤ (saveL s ks).length ∧ (saveL s ks).length ≤ 1000000000 := by
  have h1 := versL_len hB ks fun x hx => (hk.2 x).1 hx
  have h2 := hB.tot ks (keys_nodup (s := s) hk.1)
  have h3 := hB.good.rev
  have h4 := flat_len sesL s.ss 7 fun x _ => by simp [sesL, flagL, be_length]
  have h5 := hB.good.ss
  unfold totN at h1
  simp only [saveL, List.length_append, be_length]
  omega
set_option maxRecDepth 100000 in
set_option maxHeartbeats 80000000 in
theorem lawSaved (w : World) (a1 a2 : Option Addr) (cap1 cap2 : Nat) (l1 l2 : List Cmd) (bytes : ByteArray) (hr1 : l1 ≠ [] → w.reads 7 (.slice a1 l1.length cap1) (l1.map Cmd.cells)) (hn1 : l1.length * 80 ≤ 140737488355328) (hr2 : l2 ≠ [] → w.reads 7 (.slice a2 l2.length cap2) (l2.map Cmd.cells)) (hn2 : l2.length * 80 ≤ 140737488355328) (hbs : bytes.size ≤ maxLen) :
    Calls Try.prog 9 #[.slice a1 l1.length cap1, .slice a2 l2.length cap2, .string bytes] w fun e w' => e = .returned (.bool true) ∧ Below w.heap.size w w' := by
  have HN1 : Hid (l1.length * 80 ≤ 140737488355328) := hn1
  have HN2 : Hid (l2.length * 80 ≤ 140737488355328) := hn2
  have HBS : Hid (bytes.size ≤ maxLen) := hbs
  have HR2 : Hid (l2 ≠ [] → w.reads 7 (.slice a2 l2.length cap2) (l2.map Cmd.cells)) := hr2
  clear hn1 hn2 hbs hr2
  go_enter Try.func9, Try.ntmps9
  go_wp2_with fail
  refine (lawHolds _).mono ?_
  rintro e w1 ⟨p, b, D, rfl, hS, hF, hB⟩
  have HM1 : Hid (OneS w w1 p b D st4) := ⟨hS, hF, hB⟩
  have HR1 : Hid (l1 ≠ [] → w1.reads 7 (.slice a1 l1.length cap1) (l1.map Cmd.cells)) := fun hne => readsGr (hr1 hne) hB
  clear hS hF hB hr1
  go_wp2_with fail
  refine (lawKnown _ a1 cap1 l1 HR1.out HN1.out).mono ?_
  rintro e w2 ⟨v4, rfl, hK⟩
  have HK2 : Hid (LInv w1 w2 (l1.filter Cmd.may) v4) := hK
  have HM2 : Hid (OneS w w2 p b D st4) := HM1.out.grow hK.below
  have HF2 : Hid (∀ x, footS p b D x → x < w1.heap.size) := fun x hx => HM1.out.store.foot_lt hx
  obtain ⟨a4, c4, hv4⟩ : ∃ a c, v4 = .slice a (l1.filter Cmd.may).length c := by obtain ⟨a, c, h⟩ := hK.own.len; rw [List.length_map] at h; exact ⟨a, c, h⟩
  subst hv4
  have hnl : Hid ((l1.filter Cmd.may).length ≤ 8796093022208) := by have h1 := List.length_filter_le Cmd.may l1; have h2 := HN1.out; show _ ≤ _; omega
  clear hK
  go_wp2_with fail
  refine (storeDoYes _ p b D st4 HM2.out.store a4 c4 (l1.filter Cmd.may) HK2.out.own.reads (fun x hx hf => by have := HK2.out.new x hx; have := HF2.out x hf; omega) hnl.out (fun c hc => (List.mem_filter.1 hc).2)).mono ?_
  rintro e w3 ⟨g3, D3, rfl, ho3, hg3, hgf3, hS3, hF3, ht3⟩
  have HM3 : Hid (OneS w w3 p b D3 (doAll st4 (l1.filter Cmd.may)).2) := HM2.out.act hS3 hF3 ht3
  have HSAV : Hid (Sav (doAll st4 (l1.filter Cmd.may)).2) := Sav.st4.all _ fun c hc => (List.mem_filter.1 hc).2
  have HR2b : Hid (l2 ≠ [] → w3.reads 7 (.slice a2 l2.length cap2) (l2.map Cmd.cells)) := fun hne => readsGr (HR2.out hne) HM3.out.below
  generalize (doAll st4 (l1.filter Cmd.may)).2 = s at *
  clear ho3 hg3 hgf3 hS3 hF3 ht3 HM1 HM2 HK2 HF2 hnl HR1 HR2
  go_wp2_with fail
  refine (storeSave _ p b D3 s HM3.out.store HSAV.out.bnd).mono ?_
  rintro e w4 ⟨ks, hk4, he4, hb4⟩
  have HKS : Hid (KeysIn s ks) := hk4
  have HLEN : Hid (9 ≤ (saveL s ks).length ∧ (saveL s ks).length ≤ 1000000000) := saveL_len HSAV.out.bnd hk4
  obtain ⟨L, hL⟩ : ∃ L, saveL s ks = L := ⟨_, rfl⟩
  have HL : Hid (saveL s ks = L) := hL
  rw [hL] at he4 HLEN
  subst he4
  have HM4 : Hid (OneS w w4 p b D3 s) := HM3.out.grow hb4
  have HR4 : Hid (l2 ≠ [] → w4.reads 7 (.slice a2 l2.length cap2) (l2.map Cmd.cells)) := fun hne => readsGr (HR2b.out hne) hb4
  clear hL hk4 hb4 HM3 HR2b
  go_wp2_with fail
  refine (storeLoad _ (B L) (by rw [B_size]; have := HLEN.out.2; unfold maxLen; omega)).mono ?_
  rintro e w5 ⟨hb5, o, ho, hcase⟩
  have hsome : o = some s := by
    have h := save_load HSAV.out HKS.out []
    rw [List.append_nil, HL.out, if_pos rfl] at h
    rw [ho.out, B_list]; exact h
  rcases hcase with ⟨h0, _⟩ | ⟨st, p2, b2, D2, h1, rfl, hS2, hF2⟩
  · rw [hsome] at h0; cases h0
  · rw [hsome] at h1
    injection h1 with h1
    subst h1
    have HM5 : Hid (TwoS w w5 p b D3 s p2 b2 D2 s nilS []) := by
      have h := HM4.out.grow hb5
      have hlt : ∀ x, footS p b D3 x → x < w4.heap.size := fun x hx => HM4.out.store.foot_lt hx
      have hw4 := HM4.out.below.size
      exact ⟨h.store, hS2, fun x hx hx2 => by have := hlt x hx; have := hF2 x hx2; omega, h.sge, fun x hx => by have := hF2 x hx; omega, World.ownL.nil _ _ _, (fun x hx => by cases hx), (fun x hx => by cases hx), h.below⟩
    have HR5 : Hid (l2 ≠ [] → w5.reads 7 (.slice a2 l2.length cap2) (l2.map Cmd.cells)) := fun hne => readsGr (HR4.out hne) hb5
    have HSV2 : Hid (∀ W, Below w5.heap.size w5 W → Calls Try.prog 34 #[.pointer (some ⟨p2, 0, none⟩)] W fun e w' => e = .returned (.string (B L)) ∧ Below W.heap.size W w') := fun W hW => (storeSave _ p2 b2 D2 s (HM5.out.st2.grown hW) HSAV.out.bnd).mono fun e w' ⟨k9, hk9, he9, hb9⟩ => ⟨by rw [he9, ← saveL_same HKS.out hk9, HL.out], hb9⟩
    have hL9 : ¬ ((L.length : Int) < 9) := by have := HLEN.out.1; omega
    clear hb5 hS2 hF2 HM4 HR4 hsome ho
    go_wp2_with fail
    refine (HSV2.out _ (Below.refl _ _)).mono ?_
    rintro e w6 ⟨rfl, hb6⟩
    have HM6 : Hid (TwoS w w6 p b D3 s p2 b2 D2 s nilS []) := HM5.out.grow hb6
    have HR6 : Hid (l2 ≠ [] → w6.reads 7 (.slice a2 l2.length cap2) (l2.map Cmd.cells)) := fun hne => readsGr (HR5.out hne) hb6
    clear hb6 HM5 HR5 HSV2
    have hLb : L.length ≤ 1000000000 := HLEN.out.2
    have hL10 : 9 ≤ L.length := HLEN.out.1
    go_wp2_with fail
    refine (storeLoad _ _ (by rw [B_size, List.length_append]; simp only [List.length_cons, List.length_nil]; unfold maxLen; omega)).mono ?_
    rintro e w7 ⟨hb7, o, ho, hcase⟩
    have hnone : o = none := by
      have h := save_load HSAV.out HKS.out [120]
      rw [HL.out, if_neg (by simp)] at h
      rw [ho.out]
      exact h
    rcases hcase with ⟨_, rfl⟩ | ⟨st, p3, b3, D3', h1, _⟩
    · have HM7 : Hid (TwoS w w7 p b D3 s p2 b2 D2 s nilS []) := HM6.out.grow hb7
      have HR7 : Hid (l2 ≠ [] → w7.reads 7 (.slice a2 l2.length cap2) (l2.map Cmd.cells)) := fun hne => readsGr (HR6.out hne) hb7
      clear hb7 HM6 HR6 hnone ho
      have hL1 : (0 : Int) ≤ (L.length : Int) - 1 := by have := HLEN.out.1; omega
      go_wp2_with fail
      refine (storeLoad _ _ (by rw [B_size, List.length_take]; unfold maxLen; omega)).mono ?_
      rintro e w8 ⟨hb8, o, ho, hcase⟩
      have hnone : o = none := by
        have h := save_less (ks' := []) HSAV.out HKS.out
        rw [HL.out, List.dropLast_eq_take] at h
        rw [ho.out]
        exact h
      rcases hcase with ⟨_, rfl⟩ | ⟨st, p3, b3, D3', h1, _⟩
      · have HM8 : Hid (TwoS w w8 p b D3 s p2 b2 D2 s nilS []) := HM7.out.grow hb8
        have HR8 : Hid (l2 ≠ [] → w8.reads 7 (.slice a2 l2.length cap2) (l2.map Cmd.cells)) := fun hne => readsGr (HR7.out hne) hb8
        clear hb8 HM7 HR7 hnone ho hL1 hLb hL10 hL9
        go_wp2_with fail
        refine (lawKnown _ a2 cap2 l2 HR8.out HN2.out).mono ?_
        rintro e w9 ⟨v9, rfl, hK⟩
        obtain ⟨a9, c9, hv9⟩ : ∃ a c, v9 = .slice a (l2.filter Cmd.may).length c := by obtain ⟨a, c, h⟩ := hK.own.len; rw [List.length_map] at h; exact ⟨a, c, h⟩
        subst hv9
        have HM9 : Hid (TwoS w w9 p b D3 s p2 b2 D2 s (.slice a9 (l2.filter Cmd.may).length c9) (l2.filter Cmd.may)) := by
          have h := HM8.out.grow hK.below
          exact ⟨h.st1, h.st2, h.dis, h.sge1, h.sge2, hK.own, fun x hx hf => by have := hK.new x hx; have := HM8.out.st1.foot_lt hf; omega, fun x hx hf => by have := hK.new x hx; have := HM8.out.st2.foot_lt hf; omega, h.below⟩
        have hnl : Hid ((l2.filter Cmd.may).length ≤ 8796093022208) := by have h1 := List.length_filter_le Cmd.may l2; have h2 := HN2.out; show _ ≤ _; omega
        have HMAY : Hid (∀ c ∈ l2.filter Cmd.may, c.may = true) := fun c hc => (List.mem_filter.1 hc).2
        generalize l2.filter Cmd.may = ls at *
        clear hK HM8 HR8
        go_wp2_with fail
        refine (storeDoYes _ p b D3 s HM9.out.st1 a9 c9 ls HM9.out.own.reads HM9.out.off1 hnl.out HMAY.out).mono ?_
        rintro e w10 ⟨g10, D10, rfl, ho10, hg10, hgf10, hS10, hF10, ht10⟩
        have HM10 : Hid (TwoS w w10 p b D10 (doAll s ls).2 p2 b2 D2 s (.slice a9 ls.length c9) ls) := HM9.out.act1 hS10 hF10 ht10
        have HRA : Hid (w10.ownL 72 3 (.slice (some ⟨g10, 0, none⟩) ls.length ls.length) ((doAll s ls).1.map Res.cells) ∧ ¬ footS p2 b2 D2 g10) := ⟨ho10, fun hf => by have := HM9.out.st2.foot_lt hf; omega⟩
        have HLS : Hid ((doAll s ls).1.length = ls.length) := doAll_len ls s
        have HSAV2 : Hid (Sav (doAll s ls).2) := HSAV.out.all ls HMAY.out
        clear ho10 hg10 hgf10 hS10 hF10 ht10 HM9
        go_wp2_with fail
        refine (storeDoYes _ p2 b2 D2 s HM10.out.st2 a9 c9 ls HM10.out.own.reads HM10.out.off2 hnl.out HMAY.out).mono ?_
        rintro e w11 ⟨g11, D11, rfl, ho11, hg11, hgf11, hS11, hF11, ht11⟩
        have HM11 : Hid (TwoS w w11 p b D10 (doAll s ls).2 p2 b2 D11 (doAll s ls).2 (.slice a9 ls.length c9) ls) := HM10.out.act2 hS11 hF11 ht11
        have HRB : Hid (w11.ownL 72 3 (.slice (some ⟨g10, 0, none⟩) ls.length ls.length) ((doAll s ls).1.map Res.cells) ∧ w11.ownL 72 3 (.slice (some ⟨g11, 0, none⟩) ls.length ls.length) ((doAll s ls).1.map Res.cells)) := ⟨HRA.out.1.keep fun x hx => ht11.block x (HRA.out.1.lt hx) (by
          have : x = g10 := by simpa [Value.ownBlock] using hx.symm
          rw [this]; exact HRA.out.2), ho11⟩
        generalize (doAll s ls).1 = rs at *
        generalize (doAll s ls).2 = s2 at *
        clear ho11 hg11 hgf11 hS11 hF11 ht11 HM10 HRA
        go_wp2_with fail
        have hrs : Hid (rs.length ≤ 281474976710656) := by have := hnl.out; have := HLS.out; show _ ≤ _; omega
        have hsame := sameResults_same (some ⟨g10, 0, none⟩) (some ⟨g11, 0, none⟩) ls.length ls.length rs w11 hrs.out (by rw [HLS.out]; exact HRB.out.1.reads) (by rw [HLS.out]; exact HRB.out.2.reads)
        rw [HLS.out] at hsame
        refine hsame.mono ?_
        rintro e w12 ⟨rfl, n12, hw12⟩
        have HM12 : Hid (TwoS w w12 p b D10 s2 p2 b2 D11 s2 (.slice a9 ls.length c9) ls) := HM11.out.grow (by rw [hw12]; exact (by repeat (first | exact Below.refl _ _ | assumption | with_reducible refine below_drewN ?_ _ | refine Gr.ext ?_ _ | refine Gr.alloc ?_ _ | refine Gr.drew ?_ | (refine Gr.set ?_ (by first | (simp; done) | (simp; omega)) _))))
        obtain ⟨L2, hL2⟩ := save_fix s2
        have HSA : Hid (∀ W, Below w12.heap.size w12 W → Calls Try.prog 34 #[.pointer (some ⟨p, 0, none⟩)] W fun e w' => e = .returned (.string (B L2)) ∧ Below W.heap.size W w') := fun W hW => (storeSave _ p b D10 s2 (HM12.out.st1.grown hW) HSAV2.out.bnd).mono fun e w' ⟨k9, hk9, he9, hb9⟩ => ⟨by rw [he9, hL2 k9 hk9], hb9⟩
        have HSB : Hid (∀ W, Below w12.heap.size w12 W → Calls Try.prog 34 #[.pointer (some ⟨p2, 0, none⟩)] W fun e w' => e = .returned (.string (B L2)) ∧ Below W.heap.size W w') := fun W hW => (storeSave _ p2 b2 D11 s2 (HM12.out.st2.grown hW) HSAV2.out.bnd).mono fun e w' ⟨k9, hk9, he9, hb9⟩ => ⟨by rw [he9, hL2 k9 hk9], hb9⟩
        have HB12 : Hid (Below w.heap.size w w12) := HM12.out.below
        clear hw12 HM11 HM12 hsame HRB hL2 hrs
        go_wp2_with fail
        refine (HSA.out _ (by repeat (first | exact Below.refl _ _ | assumption | with_reducible refine below_drewN ?_ _ | refine Gr.ext ?_ _ | refine Gr.alloc ?_ _ | refine Gr.drew ?_ | (refine Gr.set ?_ (by first | (simp; done) | (simp; omega)) _)))).mono ?_
        rintro e w13 ⟨rfl, hb13⟩
        have HB13 : Hid (Below w12.heap.size w12 w13) := hb13
        clear hb13
        go_wp2_with fail
        refine (HSB.out _ HB13.out).mono ?_
        rintro e w14 ⟨rfl, hb14⟩
        have HB14 : Hid (Below w.heap.size w w14) := HB12.out.trans ((HB13.out.trans (hb14.mono HB13.out.size)).mono HB12.out.size)
        clear hb14 HB12 HB13 HSA HSB
        go_wp2_with fail
        refine (storeLoad _ bytes HBS.out).mono ?_
        rintro e w15 ⟨hb15, o, ho, hcase⟩
        have HB15 : Hid (Below w.heap.size w w15) := HB14.out.trans (hb15.mono HB14.out.size)
        rcases hcase with ⟨h0, rfl⟩ | ⟨st, p3, b3, D3', h1, rfl, hS3, _⟩
        · clear hb15 ho h0
          go_wp2_with fail
          exact bodyPost_ret (v := .bool true) (by simp [results, Try.results9, go_sem]) rfl ⟨rfl, HB15.out⟩
        · have hst := load_save (show loadS bytes.data.toList = some st by rw [← ho.out]; exact h1)
          have HS3 : Hid (StoreAt w15 p3 b3 D3' st) := hS3
          have HST : Hid (Sav st ∧ ∀ ks, KeysIn st ks → saveL st ks = bytes.data.toList) := hst
          clear hb15 ho h1 hS3 hst
          go_wp2_with fail
          refine (storeSave _ p3 b3 D3' st HS3.out HST.out.1.bnd).mono ?_
          rintro e w16 ⟨k9, hk9, he9, hb9⟩
          rw [HST.out.2 k9 hk9, B_eta] at he9
          subst he9
          have HB16 : Hid (Below w.heap.size w w16) := HB15.out.trans (hb9.mono HB15.out.size)
          clear hk9 hb9
          go_wp2_with fail
          exact bodyPost_ret (v := .bool true) (by simp [results, Try.results9, go_sem]) rfl ⟨rfl, HB16.out⟩
      · rw [hnone] at h1; cases h1
    · rw [hnone] at h1; cases h1
end Go.Proofs.Ytcbbnmodjnnbeaa
