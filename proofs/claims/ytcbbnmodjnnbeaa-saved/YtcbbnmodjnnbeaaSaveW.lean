/- The walk of the store's Save. -/
import Derived.Test.YtcbbnmodjnnbeaaAppV
import Derived.Test.YtcbbnmodjnnbeaaPack3
import Derived.Test.YtcbbnmodjnnbeaaRangeW
import Derived.Test.YtcbbnmodjnnbeaaSess8
set_option linter.unusedSimpArgs false
set_option linter.unusedVariables false
namespace Go.Proofs.Ytcbbnmodjnnbeaa
open Go.RowKit

def KeysIn (s : St) (ks : List ByteArray) : Prop := (ks.Pairwise fun a b => a.data.toList < b.data.toList) ∧ ∀ k, k ∈ ks ↔ s.vers k ≠ []
def totN (s : St) (ks : List ByteArray) : Nat := (ks.map fun k => (s.vers k).length).sum
def versL (s : St) (ks : List ByteArray) : List UInt8 := ks.flatMap fun k => (s.vers k).flatMap (verL k)
def saveL (s : St) (ks : List ByteArray) : List UInt8 := be 3 s.rev ++ be 3 s.floor ++ be 3 (totN s ks) ++ versL s ks ++ s.ss.flatMap sesL
structure SInv (w1 wr : World) (v : Value) (l : List UInt8) : Prop where
  own : OwnB wr w1.heap.size v l
  below : Below w1.heap.size w1 wr
theorem SInv.grow {w1 wr W : World} {v : Value} {l : List UInt8} (h : SInv w1 wr v l) (hb : Below wr.heap.size wr W) : SInv w1 W v l :=
  ⟨h.own.keep fun x hx => hb.block x (h.own.lt hx).2, h.below.trans (hb.mono h.below.size)⟩
theorem SInv.step {w1 wr W w3 : World} {v v' : Value} {l l' : List UInt8} (h : SInv w1 wr v l) (hb : Below wr.heap.size wr W) (ho : OwnB w3 w1.heap.size v' l') (hg : Grew W w3 v v') : SInv w1 w3 v' l' := by
  have h1 := h.below.size
  have h2 := hb.size
  refine ⟨ho, (h.below.trans (hb.mono h1)).trans ⟨hg.g.os, hg.g.tape, hg.g.output, hg.g.size, fun k hk => hg.keep (by omega) fun e => ?_⟩⟩
  have := (h.own.lt e).1; omega
theorem nil_le (k : ByteArray) : ([] : List UInt8) ≤ k.data.toList := fun h => by cases hl : k.data.toList <;> rw [hl] at h <;> simp at h
theorem readsGr {w w' : World} {sz : Nat} {v : Value} {cs : List (List Value)} (h : w.reads sz v cs) (hb : Below w.heap.size w w') : w'.reads sz v cs := h.keep fun k hk => hb.block k (reads_lt' h hk)
theorem keys_nodup {s : St} {ks : List ByteArray} (h : ks.Pairwise fun a b => a.data.toList < b.data.toList) : ks.Nodup := h.imp fun {a b} hab e => by subst e; exact absurd hab (List.lt_irrefl _)
theorem take_sum {ks : List ByteArray} {f : ByteArray → Nat} {k : Nat} (hk : k < ks.length) : ((ks.take (k + 1)).map f).sum = ((ks.take k).map f).sum + f ks[k] := by
  rw [List.take_add_one, List.getElem?_eq_getElem hk, List.map_append, List.sum_append]; simp
theorem verL_len (key : ByteArray) (v : Ver) (h1 : key.size ≤ 8) (h2 : v.val.size ≤ 8) : (verL key v).length ≤ 22 := by
  simp only [verL, flagL, List.length_append, be_length, len_data, List.length_cons, List.length_nil]; omega
theorem flat_len {α : Type} (f : α → List UInt8) (l : List α) (n : Nat) (h : ∀ x ∈ l, (f x).length ≤ n) : (l.flatMap f).length ≤ n * l.length := by
  induction l with
  | nil => simp
  | cons x xs ih =>
    rw [List.flatMap_cons, List.length_append, List.length_cons]
    have h1 := h x (by simp)
    have h2 := ih fun y hy => h y (by simp [hy])
    have : n * (xs.length + 1) = n * xs.length + n := Nat.mul_succ _ _
    omega
theorem versL_len {s : St} (hB : Bnd s) : ∀ ks : List ByteArray, (∀ k ∈ ks, s.vers k ≠ []) → (versL s ks).length ≤ 22 * totN s ks
  | [], _ => by simp [versL, totN]
  | k :: ks, h => by
    have ih := versL_len hB ks fun x hx => h x (by simp [hx])
    have h1 : ((s.vers k).flatMap (verL k)).length ≤ 22 * (s.vers k).length := flat_len _ _ _ fun v hv => verL_len k v (hB.key k (h k (by simp))) (hB.val k v hv)
    have e1 : (versL s (k :: ks)).length = ((s.vers k).flatMap (verL k)).length + (versL s ks).length := by
      show (List.flatMap _ (k :: ks)).length = _
      rw [List.flatMap_cons, List.length_append]; rfl
    have e2 : totN s (k :: ks) = (s.vers k).length + totN s ks := by simp [totN]
    rw [e1, e2, Nat.mul_add]
    omega
theorem versL_snoc {s : St} {ks : List ByteArray} {k : Nat} (hk : k < ks.length) : versL s (ks.take (k + 1)) = versL s (ks.take k) ++ (s.vers ks[k]).flatMap (verL ks[k]) := by
  unfold versL
  rw [List.take_add_one, List.getElem?_eq_getElem hk, List.flatMap_append]
  simp
/-- What a look-up in the store's map gives. -/
theorem look_run {w : World} {p b : Nat} {D : DataW Value} {s : St} (h : StoreAt w p b D s) (key : ByteArray) (hk : s.vers key ≠ []) : ∃ (ah : Option Addr) (caph : Nat), w.reads 3 (.slice ah (s.vers key).length caph) ((s.vers key).map Ver.cells) ∧ ∀ w' : World, w'.heap[b]? = w.heap[b]? → (Instr.lookup 136 (.map (some b)) (.string key) false).run Try.prog w' = .ok (.slice ah (s.vers key).length caph) w' := by
  obtain ⟨hd, hhd, hho⟩ := h.map.hist key
  obtain ⟨ah, caph, hah⟩ := hho.len
  rw [List.length_map] at hah
  subst hah
  refine ⟨ah, caph, hho.reads, fun w' hb' => ?_⟩
  have ho : w'.ownsMap Try.prog 9 rawElem b (Maps.size D) D := ownsMap_keep h.map.map hb'
  obtain ⟨v, ps, hrun, hraw⟩ := ho.lookup strKeyed Try.underlying136 (z := nilS) (by kernel_rfl) (zd := .held nilS) (zp := []) rfl (key_of key (h.map.key_le hk))
  have hv : D.atKey (kl key) (.held nilS) = .held v := by have := (rawElem_inv hraw).1; injection this with this _
  rw [hrun, hdAt_one (hv : hdAt D key v) hhd]
set_option maxRecDepth 100000 in
set_option maxHeartbeats 4000000 in
theorem storeSave (w : World) (p b : Nat) (D : DataW Value) (s : St) (h : StoreAt w p b D s) (hB : Bnd s) :
    Calls Try.prog 34 #[.pointer (some ⟨p, 0, none⟩)] w fun e w' => ∃ ks, KeysIn s ks ∧ e = .returned (.string (B (saveL s ks))) ∧ Below w.heap.size w w' := by
  have H : Hid (StoreAt w p b D s) := h
  have HB : Hid (Bnd s) := hB
  clear h hB
  go_enter Try.func34, Try.ntmps34
  go_wp2_with fail
  refine (storeKeys _ p b D s (H.out.grown (by repeat (first | exact Below.refl _ _ | assumption | with_reducible refine below_drewN ?_ _ | refine Gr.ext ?_ _ | refine Gr.alloc ?_ _ | refine Gr.drew ?_ | (refine Gr.set ?_ (by first | (simp; done) | (simp; omega)) _)))) ⟨#[]⟩ ⟨#[]⟩).mono ?_
  rintro e w1 ⟨ks, kv, rfl, hko, hkn, hks, hkm, hkb, hkl⟩
  obtain ⟨ka, kcap, hkv⟩ : ∃ a cap, kv = .slice a ks.length cap := by obtain ⟨a, c, h⟩ := hko.len; rw [List.length_map] at h; exact ⟨a, c, h⟩
  subst hkv
  have HK : Hid (KeysIn s ks) := ⟨hks, fun k => by rw [hkm]; exact ⟨fun h => h.1, fun h => ⟨h, nil_le k, .inl rfl⟩⟩⟩
  have HKB : Hid (Below w.heap.size w w1) := hkb
  have hS1 : StoreAt w1 p b D s := H.out.grown hkb
  have HS1 : Hid (StoreAt w1 p b D s) := hS1
  have HKR : Hid (w1.reads 1 (.slice ka ks.length kcap) (ks.map fun k => [Value.string k])) := hko.reads
  have htot := HB.out.tot
  have HT : Hid (totN s ks ≤ 1000000) := by have := htot ks (keys_nodup (s := s) hks); have := HB.out.good.rev; show totN s ks ≤ _; unfold totN; omega
  obtain ⟨c0, c1, c2, cf⟩ := st_cells hS1.blk
  have hp1 : p < w1.heap.size := (Array.getElem?_eq_some_iff.1 hS1.blk).1
  clear hko hkn hks hkm hkb hS1 htot H
  go_wp2_with fail
  go_loopw [4, 18] (fun m i wr => ∃ k : Nat, k ≤ ks.length ∧ i = .int .i64 k ∧ m = .int .i64 (totN s (ks.take k)) ∧ Below w1.heap.size w1 wr) (fun _ i _ => ks.length - (intOf i).toNat)
  case atStart => exact ⟨0, Nat.zero_le _, rfl, rfl, Below.refl _ _⟩
  case round =>
    obtain ⟨k, hk, rfl, rfl, hb⟩ := hrel
    by_cases hlt : k < ks.length
    · have hkr' : wr.reads 1 (.slice ka ks.length kcap) (ks.map fun k => [Value.string k]) := readsGr HKR.out hb
      obtain ⟨g, o, rfl, hg, d0⟩ := Str.at_reads hkr' hlt
      have hSr : StoreAt wr p b D s := HS1.out.grown hb
      obtain ⟨ah, caph, _, hrun⟩ := look_run hSr ks[k] ((HK.out.2 _).1 (List.getElem_mem hlt))
      have hsum : totN s (ks.take (k + 1)) = totN s (ks.take k) + (s.vers ks[k]).length := take_sum hlt
      have hle : totN s (ks.take (k + 1)) ≤ 1000000 := by
        have h1 := HB.out.tot (ks.take (k + 1)) ((keys_nodup (s := s) HK.out.1).sublist (List.take_sublist _ _))
        have := HB.out.good.rev
        unfold totN; omega
      obtain ⟨c0, c1, c2, cf⟩ := st_cells hSr.blk
      have hp : p < wr.heap.size := (Array.getElem?_eq_some_iff.1 hSr.blk).1
      have hlk := hrun wr rfl
      have hlk2 := hrun wr.drew rfl
      have HSUM : Hid (totN s (ks.take (k + 1)) = totN s (ks.take k) + (s.vers ks[k]).length) := hsum
      generalize (s.vers ks[k]).length = vn at *
      generalize totN s (ks.take k) = tn at *
      rw [hsum] at hle
      generalize ks[k] = key at *
      have hk1 : (k : Int) < ks.length := by omega
      have hb1 : (tn : Int) + vn ≤ 1000000 := by omega
      clear hkr' hSr hrun hsum
      go_wp2_with fail
      exact ⟨⟨k + 1, by omega, val_int (by omega), by rw [HSUM.out]; exact val_int (by omega), hb⟩, by simp [intOf]; omega⟩
    · have hkk : k = ks.length := by omega
      subst hkk
      rw [List.take_length]
      have hsr := HB.out.good.rev
      have hsf := HB.out.good.floor
      have HR3 : Hid (s.rev ≤ 1000000 ∧ s.floor ≤ 1000000) := ⟨by omega, by omega⟩
      clear c0 c1 c2 cf hp1 hsr hsf hk hlt
      obtain ⟨c0, c1, c2, cf⟩ := st_cells (HS1.out.grown hb).blk
      have hp : p < wr.heap.size := (Array.getElem?_eq_some_iff.1 (HS1.out.grown hb).blk).1
      go_wp2_with fail
      refine (appendNumber nilS [] s.rev wr w1.heap.size (OwnB.nil _ _) hb.size (by have := HR3.out.1; omega) (by simp)).mono ?_
      rintro e w2 ⟨v2, rfl, ho2, hg2⟩
      have HI2 : Hid (SInv w1 w2 v2 ([] ++ be 3 s.rev)) := SInv.step (v := nilS) (l := []) ⟨OwnB.nil _ _, hb⟩ (Below.refl _ _) ho2 hg2
      clear c0 c1 c2 cf hp ho2 hg2 hb
      obtain ⟨c0, c1, c2, cf⟩ := st_cells (HS1.out.grown HI2.out.below).blk
      have hp : p < w2.heap.size := (Array.getElem?_eq_some_iff.1 (HS1.out.grown HI2.out.below).blk).1
      go_wp2_with fail
      refine (appendNumber v2 _ s.floor w2 w1.heap.size HI2.out.own HI2.out.below.size (by have := HR3.out.2; omega) (by simp [be_length])).mono ?_
      rintro e w3 ⟨v3, rfl, ho3, hg3⟩
      have HI3 : Hid (SInv w1 w3 v3 (([] ++ be 3 s.rev) ++ be 3 s.floor)) := HI2.out.step (Below.refl _ _) ho3 hg3
      clear c0 c1 c2 cf hp ho3 hg3 HI2
      go_wp2_with fail
      refine (appendNumber v3 _ (totN s ks) w3 w1.heap.size HI3.out.own HI3.out.below.size (by have := HT.out; omega) (by simp [be_length])).mono ?_
      rintro e w4 ⟨v4, rfl, ho4, hg4⟩
      have HI4 : Hid (SInv w1 w4 v4 ((([] ++ be 3 s.rev) ++ be 3 s.floor) ++ be 3 (totN s ks))) := HI3.out.step (Below.refl _ _) ho4 hg4
      clear ho4 hg4 HI3
      rw [List.nil_append] at HI4
      go_wp2_with fail
      as_aux_lemma =>
      obtain ⟨hdr, hhdr⟩ : ∃ hdr, be 3 s.rev ++ be 3 s.floor ++ be 3 (totN s ks) = hdr := ⟨_, rfl⟩
      have HHDR : Hid (be 3 s.rev ++ be 3 s.floor ++ be 3 (totN s ks) = hdr ∧ hdr.length = 9) := ⟨hhdr, by rw [← hhdr]; simp [be_length]⟩
      rw [hhdr] at HI4
      clear hhdr
      go_loopw [7, 48] (fun v i wr => ∃ k : Nat, k ≤ ks.length ∧ i = .int .i64 k ∧ Hid (SInv w1 wr v (hdr ++ versL s (ks.take k)))) (fun _ i _ => ks.length - (intOf i).toNat)
      case atStart => exact ⟨0, Nat.zero_le _, rfl, by show SInv _ _ _ _; rw [List.take_zero]; simpa [versL] using HI4.out⟩
      case round =>
        clear HI4
        obtain ⟨k, hk, rfl, HI⟩ := hrel
        by_cases hlt : k < ks.length
        · as_aux_lemma =>
          have hb := HI.out.below
          have hkr' : wr.reads 1 (.slice ka ks.length kcap) (ks.map fun k => [Value.string k]) := readsGr HKR.out hb
          obtain ⟨g, o, rfl, hg, d0⟩ := Str.at_reads hkr' hlt
          have hne := (HK.out.2 _).1 (List.getElem_mem hlt)
          obtain ⟨ah, caph, hvr, hrun⟩ := look_run HS1.out ks[k] hne
          have hbm := HS1.out.map.map.lt
          have hlk := hrun wr (hb.block b hbm)
          have hlk2 := hrun wr.drew (hb.block b hbm)
          obtain ⟨c0, c1, c2, cf⟩ := st_cells (HS1.out.grown hb).blk
          have hp : p < wr.heap.size := (Array.getElem?_eq_some_iff.1 (HS1.out.grown hb).blk).1
          have HS : Hid (versL s (ks.take (k + 1)) = versL s (ks.take k) ++ (s.vers ks[k]).flatMap (verL ks[k])) := versL_snoc hlt
          have HLEN : Hid ((hdr ++ versL s (ks.take k)).length ≤ 100000000 ∧ (s.vers ks[k]).length ≤ 1000000 ∧ ks[k].size ≤ 8 ∧ (∀ v ∈ s.vers ks[k], v.val.size ≤ 8 ∧ v.rev ≤ 1000000)) := by
            have h1 := versL_len HB.out (ks.take k) fun x hx => (HK.out.2 x).1 (List.mem_of_mem_take hx)
            have h2 := HB.out.tot (ks.take k) ((keys_nodup (s := s) HK.out.1).sublist (List.take_sublist _ _))
            have h3 := HR3.out.1
            have h4 := HHDR.out.2
            refine ⟨by rw [List.length_append]; unfold totN at h1; omega, HB.out.good.len _, HB.out.key _ hne, fun v hv => ⟨HB.out.val _ v hv, by have := (HB.out.good.bd _ v hv).2; omega⟩⟩
          have HVR : Hid (w1.reads 3 (.slice ah (s.vers ks[k]).length caph) ((s.vers ks[k]).map Ver.cells)) := hvr
          obtain ⟨pre, hpre⟩ : ∃ pre, hdr ++ versL s (ks.take k) = pre := ⟨_, rfl⟩
          rw [hpre] at HI HLEN
          have HPRE : Hid (hdr ++ versL s (ks.take (k + 1)) = pre ++ (s.vers ks[k]).flatMap (verL ks[k])) := by show _ = _; rw [HS.out, ← List.append_assoc, hpre]
          clear hpre HS
          generalize ks[k] = key at *
          have hk1 : (k : Int) < ks.length := by omega
          clear hkr' hrun hne hvr
          go_wp2_with fail
          have HVR2 := HVR.out
          have hlv := HLEN.out.2.1
          generalize hvs : s.vers key = vs at *
          clear c0 c1 c2 cf hp d0 hlk hlk2 hb hg
          go_loopw [7, 59] (fun v i wr => ∃ j : Nat, j ≤ vs.length ∧ i = .int .i64 j ∧ Hid (SInv w1 wr v (pre ++ (vs.take j).flatMap (verL key)))) (fun _ i _ => vs.length - (intOf i).toNat)
          case atStart => exact ⟨0, Nat.zero_le _, rfl, by show SInv _ _ _ _; rw [List.take_zero, List.flatMap_nil, List.append_nil]; exact HI.out⟩
          case round =>
            clear HI
            obtain ⟨j, hj, rfl, HJ⟩ := hrel
            by_cases hjl : j < vs.length
            · have hb := HJ.out.below
              obtain ⟨gv, ov, rfl, hgv, hvv⟩ := ver_at (readsGr HVR2 hb) hjl
              have HN : Hid (pre ++ (vs.take (j + 1)).flatMap (verL key) = (pre ++ (vs.take j).flatMap (verL key)) ++ verL key vs[j]) := by
                show _ = _
                rw [List.take_add_one, List.getElem?_eq_getElem hjl, List.flatMap_append, ← List.append_assoc]
                simp
              have HL2 : Hid ((pre ++ (vs.take j).flatMap (verL key)).length ≤ 1000000000) := by
                have h1 := flat_len (verL key) (vs.take j) 22 fun v hv => verL_len key v HLEN.out.2.2.1 (HLEN.out.2.2.2 v (List.mem_of_mem_take hv)).1
                have h2 := HLEN.out.1
                have h3 : (vs.take j).length ≤ vs.length := by rw [List.length_take]; omega
                show _ ≤ _
                rw [List.length_append]; omega
              have hmem := HLEN.out.2.2.2 vs[j] (List.getElem_mem hjl)
              have HMM : Hid (key.size ≤ 8 ∧ vs[j].val.size ≤ 8 ∧ vs[j].rev ≤ 1000000) := ⟨HLEN.out.2.2.1, hmem.1, hmem.2⟩
              obtain ⟨e0, e1, e2⟩ := Ver.off hvv
              generalize vs[j] = x at *
              generalize pre ++ (vs.take j).flatMap (verL key) = pl at *
              have hj1 : (j : Int) < vs.length := by omega
              have hcall := fun W (hW : Below wr.heap.size wr W) => appendVersion u7 pl key x W w1.heap.size (HJ.out.grow hW).own (HJ.out.grow hW).below.size HMM.out.1 HMM.out.2.1 HMM.out.2.2 HL2.out
              have HCALL : Hid _ := hcall
              clear hcall hmem hvv HVR2
              go_wp2_with fail
              refine (HCALL.out _ (by repeat (first | exact Below.refl _ _ | assumption | with_reducible refine below_drewN ?_ _ | refine Gr.ext ?_ _ | refine Gr.alloc ?_ _ | refine Gr.drew ?_ | (refine Gr.set ?_ (by first | (simp; done) | (simp; omega)) _)))).mono ?_
              rintro e w7 ⟨v7, rfl, ho7, hg7⟩
              have HJ7 : Hid (SInv w1 w7 v7 (pl ++ verL key x)) := HJ.out.step (by repeat (first | exact Below.refl _ _ | assumption | with_reducible refine below_drewN ?_ _ | refine Gr.ext ?_ _ | refine Gr.alloc ?_ _ | refine Gr.drew ?_ | (refine Gr.set ?_ (by first | (simp; done) | (simp; omega)) _))) ho7 hg7
              clear ho7 hg7 e0 e1 e2 HCALL
              go_wp2_with fail
              exact ⟨⟨j + 1, by omega, val_int (by omega), by rw [HN.out]; exact HJ7⟩, by simp [intOf]; omega⟩
            · have hjj : j = vs.length := by omega
              subst hjj
              rw [List.take_length] at HJ
              go_wp2_with fail
              all_goals exact ⟨⟨k + 1, by omega, val_int (by omega), by rw [HPRE.out]; exact HJ⟩, by simp [intOf]; omega⟩
        · have hkk : k = ks.length := by omega
          subst hkk
          rw [List.take_length] at HI
          as_aux_lemma =>
          have h8 : s.ss.length = 8 := HB.out.good.ss
          obtain ⟨x0, x1, x2, x3, x4, x5, x6, x7, hss⟩ : ∃ x0 x1 x2 x3 x4 x5 x6 x7 : Nat × Res, s.ss = [x0, x1, x2, x3, x4, x5, x6, x7] := by
            match hl : s.ss, h8 with
            | [x0, x1, x2, x3, x4, x5, x6, x7], _ => exact ⟨x0, x1, x2, x3, x4, x5, x6, x7, rfl⟩
          have hblk := (HS1.out.grown HI.out.below).blk
          have hrange := st_range8 hblk hss
          have hp : p < wr.heap.size := (Array.getElem?_eq_some_iff.1 hblk).1
          have HSS : Hid (s.ss = [x0, x1, x2, x3, x4, x5, x6, x7]) := hss
          have HSB : Hid ((∀ x ∈ s.ss, x.1 ≤ 1000000) ∧ ∀ x ∈ s.ss, 0 ≤ x.2.rev ∧ x.2.rev ≤ 1000000) := ⟨HB.out.seq, fun x hx => ⟨(HB.out.res x hx).1, by have := (HB.out.res x hx).2; have := HR3.out.1; omega⟩⟩
          clear hss hblk h8
          go_wp2_with (refine wpList_load_mid rfl 139 _ rfl p 3 rfl _ _ hrange Try.underlying139 rfl (by kernel_rfl) ?_)
          clear hrange hp
          as_aux_lemma =>
          obtain ⟨pre, hpre⟩ : ∃ pre, hdr ++ versL s ks = pre := ⟨_, rfl⟩
          have HPL : Hid (pre.length ≤ 100000000) := by
            have h1 := versL_len HB.out ks fun x hx => (HK.out.2 x).1 hx
            have h2 := HT.out
            have h4 := HHDR.out.2
            show _ ≤ _
            rw [← hpre, List.length_append]; omega
          have HPE : Hid (saveL s ks = pre ++ s.ss.flatMap sesL) := by show _ = _; unfold saveL; rw [HHDR.out.1, hpre]
          rw [hpre] at HI
          clear hpre
          have HN : Hid (∀ (k : Nat) (x : Nat × Res), s.ss[k]? = some x → pre ++ (s.ss.take (k + 1)).flatMap sesL = (pre ++ (s.ss.take k).flatMap sesL) ++ sesL x) := fun k x hx => by
            rw [List.take_add_one, hx, List.flatMap_append, ← List.append_assoc]; simp
          have HLB : Hid (∀ k, (pre ++ (s.ss.take k).flatMap sesL).length ≤ 1000000000) := fun k => by
            have h1 := flat_len sesL (s.ss.take k) 7 fun x _ => by simp [sesL, flagL, be_length]
            have h2 : (s.ss.take k).length ≤ 8 := by rw [List.length_take, HB.out.good.ss]; omega
            have := HPL.out
            rw [List.length_append]; omega
          have HCALL : Hid (∀ (W : World) (x : Nat × Res) (v : Value) (pl : List UInt8), x ∈ s.ss → SInv w1 W v pl → pl.length ≤ 1000000000 → Calls Try.prog 77 #[v, .agg #[.int .i64 x.1, .bool x.2.ok, .int .i64 x.2.rev, .bool x.2.stale]] W fun e w' => ∃ v', e = .returned v' ∧ Hid (OwnB w' w1.heap.size v' (pl ++ sesL x) ∧ Grew W w' v v')) := fun W x v pl hx hS hl => (appendSession v pl x W w1.heap.size hS.own hS.below.size (HSB.out.1 x hx) (HSB.out.2 x hx).1 (HSB.out.2 x hx).2 hl).mono fun e w' ⟨v', h1, h2, h3⟩ => ⟨v', h1, h2, h3⟩
          go_loopw [7, 73] (fun v i wr => ∃ k : Nat, k ≤ 8 ∧ i = .int .i64 k ∧ Hid (SInv w1 wr v (pre ++ (s.ss.take k).flatMap sesL))) (fun _ i _ => 8 - (intOf i).toNat)
          case atStart => exact ⟨0, Nat.zero_le _, rfl, by show SInv _ _ _ _; rw [List.take_zero, List.flatMap_nil, List.append_nil]; exact HI.out⟩
          case round =>
            clear HI
            obtain ⟨k, hk, rfl, HJ⟩ := hrel
            rcases (by omega : k = 0 ∨ k = 1 ∨ k = 2 ∨ k = 3 ∨ k = 4 ∨ k = 5 ∨ k = 6 ∨ k = 7 ∨ k = 8) with rfl | rfl | rfl | rfl | rfl | rfl | rfl | rfl | rfl
            · as_aux_lemma =>
              have hidx := sesIndex0 x0 x1 x2 x3 x4 x5 x6 x7
              go_wp2_with fail
              refine (HCALL.out _ x0 _ _ (by rw [HSS.out]; simp) (HJ.out.grow (by repeat (first | exact Below.refl _ _ | assumption | with_reducible refine below_drewN ?_ _ | refine Gr.ext ?_ _ | refine Gr.alloc ?_ _ | refine Gr.drew ?_ | (refine Gr.set ?_ (by first | (simp; done) | (simp; omega)) _)))) (HLB.out _)).mono ?_
              rintro e w7 ⟨v7, rfl, h7⟩
              have HJ7 : Hid (SInv w1 w7 v7 (pre ++ (s.ss.take 1).flatMap sesL)) := by
                show SInv _ _ _ _
                rw [HN.out 0 x0 (by rw [HSS.out]; rfl)]
                exact HJ.out.step (by repeat (first | exact Below.refl _ _ | assumption | with_reducible refine below_drewN ?_ _ | refine Gr.ext ?_ _ | refine Gr.alloc ?_ _ | refine Gr.drew ?_ | (refine Gr.set ?_ (by first | (simp; done) | (simp; omega)) _))) h7.out.1 h7.out.2
              clear hidx h7
              go_wp2_with fail
              exact ⟨⟨1, by omega, rfl, HJ7⟩, by simp [intOf]⟩
            · as_aux_lemma =>
              have hidx := sesIndex1 x0 x1 x2 x3 x4 x5 x6 x7
              go_wp2_with fail
              refine (HCALL.out _ x1 _ _ (by rw [HSS.out]; simp) (HJ.out.grow (by repeat (first | exact Below.refl _ _ | assumption | with_reducible refine below_drewN ?_ _ | refine Gr.ext ?_ _ | refine Gr.alloc ?_ _ | refine Gr.drew ?_ | (refine Gr.set ?_ (by first | (simp; done) | (simp; omega)) _)))) (HLB.out _)).mono ?_
              rintro e w7 ⟨v7, rfl, h7⟩
              have HJ7 : Hid (SInv w1 w7 v7 (pre ++ (s.ss.take 2).flatMap sesL)) := by
                show SInv _ _ _ _
                rw [HN.out 1 x1 (by rw [HSS.out]; rfl)]
                exact HJ.out.step (by repeat (first | exact Below.refl _ _ | assumption | with_reducible refine below_drewN ?_ _ | refine Gr.ext ?_ _ | refine Gr.alloc ?_ _ | refine Gr.drew ?_ | (refine Gr.set ?_ (by first | (simp; done) | (simp; omega)) _))) h7.out.1 h7.out.2
              clear hidx h7
              go_wp2_with fail
              exact ⟨⟨2, by omega, rfl, HJ7⟩, by simp [intOf]⟩
            · as_aux_lemma =>
              have hidx := sesIndex2 x0 x1 x2 x3 x4 x5 x6 x7
              go_wp2_with fail
              refine (HCALL.out _ x2 _ _ (by rw [HSS.out]; simp) (HJ.out.grow (by repeat (first | exact Below.refl _ _ | assumption | with_reducible refine below_drewN ?_ _ | refine Gr.ext ?_ _ | refine Gr.alloc ?_ _ | refine Gr.drew ?_ | (refine Gr.set ?_ (by first | (simp; done) | (simp; omega)) _)))) (HLB.out _)).mono ?_
              rintro e w7 ⟨v7, rfl, h7⟩
              have HJ7 : Hid (SInv w1 w7 v7 (pre ++ (s.ss.take 3).flatMap sesL)) := by
                show SInv _ _ _ _
                rw [HN.out 2 x2 (by rw [HSS.out]; rfl)]
                exact HJ.out.step (by repeat (first | exact Below.refl _ _ | assumption | with_reducible refine below_drewN ?_ _ | refine Gr.ext ?_ _ | refine Gr.alloc ?_ _ | refine Gr.drew ?_ | (refine Gr.set ?_ (by first | (simp; done) | (simp; omega)) _))) h7.out.1 h7.out.2
              clear hidx h7
              go_wp2_with fail
              exact ⟨⟨3, by omega, rfl, HJ7⟩, by simp [intOf]⟩
            · as_aux_lemma =>
              have hidx := sesIndex3 x0 x1 x2 x3 x4 x5 x6 x7
              go_wp2_with fail
              refine (HCALL.out _ x3 _ _ (by rw [HSS.out]; simp) (HJ.out.grow (by repeat (first | exact Below.refl _ _ | assumption | with_reducible refine below_drewN ?_ _ | refine Gr.ext ?_ _ | refine Gr.alloc ?_ _ | refine Gr.drew ?_ | (refine Gr.set ?_ (by first | (simp; done) | (simp; omega)) _)))) (HLB.out _)).mono ?_
              rintro e w7 ⟨v7, rfl, h7⟩
              have HJ7 : Hid (SInv w1 w7 v7 (pre ++ (s.ss.take 4).flatMap sesL)) := by
                show SInv _ _ _ _
                rw [HN.out 3 x3 (by rw [HSS.out]; rfl)]
                exact HJ.out.step (by repeat (first | exact Below.refl _ _ | assumption | with_reducible refine below_drewN ?_ _ | refine Gr.ext ?_ _ | refine Gr.alloc ?_ _ | refine Gr.drew ?_ | (refine Gr.set ?_ (by first | (simp; done) | (simp; omega)) _))) h7.out.1 h7.out.2
              clear hidx h7
              go_wp2_with fail
              exact ⟨⟨4, by omega, rfl, HJ7⟩, by simp [intOf]⟩
            · as_aux_lemma =>
              have hidx := sesIndex4 x0 x1 x2 x3 x4 x5 x6 x7
              go_wp2_with fail
              refine (HCALL.out _ x4 _ _ (by rw [HSS.out]; simp) (HJ.out.grow (by repeat (first | exact Below.refl _ _ | assumption | with_reducible refine below_drewN ?_ _ | refine Gr.ext ?_ _ | refine Gr.alloc ?_ _ | refine Gr.drew ?_ | (refine Gr.set ?_ (by first | (simp; done) | (simp; omega)) _)))) (HLB.out _)).mono ?_
              rintro e w7 ⟨v7, rfl, h7⟩
              have HJ7 : Hid (SInv w1 w7 v7 (pre ++ (s.ss.take 5).flatMap sesL)) := by
                show SInv _ _ _ _
                rw [HN.out 4 x4 (by rw [HSS.out]; rfl)]
                exact HJ.out.step (by repeat (first | exact Below.refl _ _ | assumption | with_reducible refine below_drewN ?_ _ | refine Gr.ext ?_ _ | refine Gr.alloc ?_ _ | refine Gr.drew ?_ | (refine Gr.set ?_ (by first | (simp; done) | (simp; omega)) _))) h7.out.1 h7.out.2
              clear hidx h7
              go_wp2_with fail
              exact ⟨⟨5, by omega, rfl, HJ7⟩, by simp [intOf]⟩
            · as_aux_lemma =>
              have hidx := sesIndex5 x0 x1 x2 x3 x4 x5 x6 x7
              go_wp2_with fail
              refine (HCALL.out _ x5 _ _ (by rw [HSS.out]; simp) (HJ.out.grow (by repeat (first | exact Below.refl _ _ | assumption | with_reducible refine below_drewN ?_ _ | refine Gr.ext ?_ _ | refine Gr.alloc ?_ _ | refine Gr.drew ?_ | (refine Gr.set ?_ (by first | (simp; done) | (simp; omega)) _)))) (HLB.out _)).mono ?_
              rintro e w7 ⟨v7, rfl, h7⟩
              have HJ7 : Hid (SInv w1 w7 v7 (pre ++ (s.ss.take 6).flatMap sesL)) := by
                show SInv _ _ _ _
                rw [HN.out 5 x5 (by rw [HSS.out]; rfl)]
                exact HJ.out.step (by repeat (first | exact Below.refl _ _ | assumption | with_reducible refine below_drewN ?_ _ | refine Gr.ext ?_ _ | refine Gr.alloc ?_ _ | refine Gr.drew ?_ | (refine Gr.set ?_ (by first | (simp; done) | (simp; omega)) _))) h7.out.1 h7.out.2
              clear hidx h7
              go_wp2_with fail
              exact ⟨⟨6, by omega, rfl, HJ7⟩, by simp [intOf]⟩
            · as_aux_lemma =>
              have hidx := sesIndex6 x0 x1 x2 x3 x4 x5 x6 x7
              go_wp2_with fail
              refine (HCALL.out _ x6 _ _ (by rw [HSS.out]; simp) (HJ.out.grow (by repeat (first | exact Below.refl _ _ | assumption | with_reducible refine below_drewN ?_ _ | refine Gr.ext ?_ _ | refine Gr.alloc ?_ _ | refine Gr.drew ?_ | (refine Gr.set ?_ (by first | (simp; done) | (simp; omega)) _)))) (HLB.out _)).mono ?_
              rintro e w7 ⟨v7, rfl, h7⟩
              have HJ7 : Hid (SInv w1 w7 v7 (pre ++ (s.ss.take 7).flatMap sesL)) := by
                show SInv _ _ _ _
                rw [HN.out 6 x6 (by rw [HSS.out]; rfl)]
                exact HJ.out.step (by repeat (first | exact Below.refl _ _ | assumption | with_reducible refine below_drewN ?_ _ | refine Gr.ext ?_ _ | refine Gr.alloc ?_ _ | refine Gr.drew ?_ | (refine Gr.set ?_ (by first | (simp; done) | (simp; omega)) _))) h7.out.1 h7.out.2
              clear hidx h7
              go_wp2_with fail
              exact ⟨⟨7, by omega, rfl, HJ7⟩, by simp [intOf]⟩
            · as_aux_lemma =>
              have hidx := sesIndex7 x0 x1 x2 x3 x4 x5 x6 x7
              go_wp2_with fail
              refine (HCALL.out _ x7 _ _ (by rw [HSS.out]; simp) (HJ.out.grow (by repeat (first | exact Below.refl _ _ | assumption | with_reducible refine below_drewN ?_ _ | refine Gr.ext ?_ _ | refine Gr.alloc ?_ _ | refine Gr.drew ?_ | (refine Gr.set ?_ (by first | (simp; done) | (simp; omega)) _)))) (HLB.out _)).mono ?_
              rintro e w7 ⟨v7, rfl, h7⟩
              have HJ7 : Hid (SInv w1 w7 v7 (pre ++ (s.ss.take 8).flatMap sesL)) := by
                show SInv _ _ _ _
                rw [HN.out 7 x7 (by rw [HSS.out]; rfl)]
                exact HJ.out.step (by repeat (first | exact Below.refl _ _ | assumption | with_reducible refine below_drewN ?_ _ | refine Gr.ext ?_ _ | refine Gr.alloc ?_ _ | refine Gr.drew ?_ | (refine Gr.set ?_ (by first | (simp; done) | (simp; omega)) _))) h7.out.1 h7.out.2
              clear hidx h7
              go_wp2_with fail
              exact ⟨⟨8, by omega, rfl, HJ7⟩, by simp [intOf]⟩
            · as_aux_lemma =>
              have hall : s.ss.take 8 = s.ss := by rw [HSS.out]; rfl
              rw [hall] at HJ
              have hown := HJ.out.own
              have hconv := conv_own hown
              have hbb := HJ.out.below
              have HE : Hid (pre ++ s.ss.flatMap sesL = saveL s ks) := HPE.out.symm
              clear hall hown
              go_wp2_with fail
              exact bodyPost_ret (v := .string (B (pre ++ s.ss.flatMap sesL))) (by simp [results, Try.results34, go_sem]) rfl ⟨ks, HK.out, by rw [HE.out], HKB.out.trans (hbb.mono HKB.out.size)⟩
theorem saveL_same {s : St} {ks ks' : List ByteArray} (h : KeysIn s ks) (h' : KeysIn s ks') : ks = ks' := by
  have hp : ks.Perm ks' := (List.perm_ext_iff_of_nodup (keys_nodup (s := s) h.1) (keys_nodup (s := s) h'.1)).2 fun k => by rw [h.2, h'.2]
  refine List.Perm.eq_of_pairwise (le := fun a b => a.data.toList < b.data.toList) (fun a b _ _ h1 h2 => ?_) h.1 h'.1 hp
  exact absurd (List.lt_trans h1 h2) (List.lt_irrefl _)
end Go.Proofs.Ytcbbnmodjnnbeaa
