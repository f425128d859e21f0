/- The walk of the store's Save. -/
import Derived.Test.YtcbbnmodjnnbeaaNewW
import Derived.Test.YtcbbnmodjnnbeaaSess8
import Derived.Test.YtcbbnmodjnnbeaaPack2
set_option linter.unusedSimpArgs false
set_option linter.unusedVariables false
namespace Go.Proofs.Ytcbbnmodjnnbeaa
open Go.RowKit

def KeysIn (s : St) (ks : List ByteArray) : Prop := (ks.Pairwise fun a b => a.data.toList < b.data.toList) ∧ ∀ k, k ∈ ks ↔ s.vers k ≠ []
def totN (s : St) (ks : List ByteArray) : Nat := (ks.map fun k => (s.vers k).length).sum
def versL (s : St) (ks : List ByteArray) : List UInt8 := ks.flatMap fun k => (s.vers k).flatMap (verL k)
def saveL (s : St) (ks : List ByteArray) : List UInt8 := be 3 s.rev ++ be 3 s.floor ++ be 3 (totN s ks) ++ versL s ks ++ s.ss.flatMap sesL
structure SInv (w1 wr : World) (v : Value) (l : List UInt8) : Prop where
  own : OwnB wr w1.heap.size v l
  below : Below w1.heap.size w1 wr
theorem SInv.grow {w1 wr W : World} {v : Value} {l : List UInt8} (h : SInv w1 wr v l) (hb : Below wr.heap.size wr W) : SInv w1 W v l :=
  ⟨h.own.keep fun x hx => hb.block x (h.own.lt hx).2, h.below.trans (hb.mono h.below.size)⟩
theorem SInv.step {w1 wr W w3 : World} {v v' : Value} {l l' : List UInt8} (h : SInv w1 wr v l) (hb : Below wr.heap.size wr W) (ho : OwnB w3 w1.heap.size v' l') (hg : Grew W w3 v v') : SInv w1 w3 v' l' := by
  have h1 := h.below.size
  have h2 := hb.size
  refine ⟨ho, (h.below.trans (hb.mono h1)).trans ⟨hg.g.os, hg.g.tape, hg.g.output, hg.g.size, fun k hk => hg.keep (by omega) fun e => ?_⟩⟩
  have := (h.own.lt e).1; omega
theorem nil_le (k : ByteArray) : ([] : List UInt8) ≤ k.data.toList := fun h => by cases hl : k.data.toList <;> rw [hl] at h <;> simp at h
theorem readsGr {w w' : World} {sz : Nat} {v : Value} {cs : List (List Value)} (h : w.reads sz v cs) (hb : Below w.heap.size w w') : w'.reads sz v cs := h.keep fun k hk => hb.block k (reads_lt' h hk)
theorem keys_nodup {s : St} {ks : List ByteArray} (h : ks.Pairwise fun a b => a.data.toList < b.data.toList) : ks.Nodup := h.imp fun {a b} hab e => by subst e; exact absurd hab (List.lt_irrefl _)
theorem take_sum {ks : List ByteArray} {f : ByteArray → Nat} {k : Nat} (hk : k < ks.length) : ((ks.take (k + 1)).map f).sum = ((ks.take k).map f).sum + f ks[k] := by
  rw [List.take_add_one, List.getElem?_eq_getElem hk, List.map_append, List.sum_append]; simp
theorem verL_len (key : ByteArray) (v : Ver) (h1 : key.size ≤ 8) (h2 : v.val.size ≤ 8) : (verL key v).length ≤ 22 := by
  simp only [verL, flagL, List.length_append, be_length, len_data, List.length_cons, List.length_nil]; omega
theorem flat_len {α : Type} (f : α → List UInt8) (l : List α) (n : Nat) (h : ∀ x ∈ l, (f x).length ≤ n) : (l.flatMap f).length ≤ n * l.length := by
  induction l with
  | nil => simp
  | cons x xs ih =>
    rw [List.flatMap_cons, List.length_append, List.length_cons]
    have h1 := h x (by simp)
    have h2 := ih fun y hy => h y (by simp [hy])
    have : n * (xs.length + 1) = n * xs.length + n := Nat.mul_succ _ _
    omega
theorem versL_len {s : St} (hB : Bnd s) : ∀ ks : List ByteArray, (∀ k ∈ ks, s.vers k ≠ []) → (versL s ks).length ≤ 22 * totN s ks
  | [], _ => by simp [versL, totN]
  | k :: ks, h => by
    have ih := versL_len hB ks fun x hx => h x (by simp [hx])
    have h1 : ((s.vers k).flatMap (verL k)).length ≤ 22 * (s.vers k).length := flat_len _ _ _ fun v hv => verL_len k v (hB.key k (h k (by simp))) (hB.val k v hv)
    have e1 : (versL s (k :: ks)).length = ((s.vers k).flatMap (verL k)).length + (versL s ks).length := by
      show (List.flatMap _ (k :: ks)).length = _
      rw [List.flatMap_cons, List.length_append]; rfl
    have e2 : totN s (k :: ks) = (s.vers k).length + totN s ks := by simp [totN]
    rw [e1, e2, Nat.mul_add]
    omega
theorem versL_snoc {s : St} {ks : List ByteArray} {k : Nat} (hk : k < ks.length) : versL s (ks.take (k + 1)) = versL s (ks.take k) ++ (s.vers ks[k]).flatMap (verL ks[k]) := by
  unfold versL
  rw [List.take_add_one, List.getElem?_eq_getElem hk, List.flatMap_append]
  simp
/-- What a look-up in the store's map gives. -/
theorem look_run {w : World} {p b : Nat} {D : DataW Value} {s : St} (h : StoreAt w p b D s) (key : ByteArray) (hk : s.vers key ≠ []) : ∃ (ah : Option Addr) (caph : Nat), w.reads 3 (.slice ah (s.vers key).length caph) ((s.vers key).map Ver.cells) ∧ ∀ w' : World, w'.heap[b]? = w.heap[b]? → (Instr.lookup 136 (.map (some b)) (.string key) false).run Try.prog w' = .ok (.slice ah (s.vers key).length caph) w' := by
  obtain ⟨hd, hhd, hho⟩ := h.map.hist key
  obtain ⟨ah, caph, hah⟩ := hho.len
  rw [List.length_map] at hah
  subst hah
  refine ⟨ah, caph, hho.reads, fun w' hb' => ?_⟩
  have ho : w'.ownsMap Try.prog 9 rawElem b (Maps.size D) D := ownsMap_keep h.map.map hb'
  obtain ⟨v, ps, hrun, hraw⟩ := ho.lookup strKeyed Try.underlying136 (z := nilS) (by kernel_rfl) (zd := .held nilS) (zp := []) rfl (key_of key (h.map.key_le hk))
  have hv : D.atKey (kl key) (.held nilS) = .held v := by have := (rawElem_inv hraw).1; injection this with this _
  rw [hrun, hdAt_one (hv : hdAt D key v) hhd]
set_option maxRecDepth 100000 in
set_option maxHeartbeats 4000000 in
theorem storeSave (w : World) (p b : Nat) (D : DataW Value) (s : St) (h : StoreAt w p b D s) (hB : Bnd s) :
    Calls Try.prog 34 #[.pointer (some ⟨p, 0, none⟩)] w fun e w' => ∃ ks, KeysIn s ks ∧ e = .returned (.string (B (saveL s ks))) ∧ Below w.heap.size w w' := by
  have H : Hid (StoreAt w p b D s) := h
  have HB : Hid (Bnd s) := hB
  clear h hB
  go_enter Try.func34, Try.ntmps34
  go_wp2_with fail
  refine (storeKeys _ p b D s (H.out.grown (by repeat (first | exact Below.refl _ _ | assumption | with_reducible refine below_drewN ?_ _ | refine Gr.ext ?_ _ | refine Gr.alloc ?_ _ | refine Gr.drew ?_ | (refine Gr.set ?_ (by first | (simp; done) | (simp; omega)) _)))) ⟨#[]⟩ ⟨#[]⟩).mono ?_
  rintro e w1 ⟨ks, kv, rfl, hko, hkn, hks, hkm, hkb, hkl⟩
  obtain ⟨ka, kcap, hkv⟩ : ∃ a cap, kv = .slice a ks.length cap := by obtain ⟨a, c, h⟩ := hko.len; rw [List.length_map] at h; exact ⟨a, c, h⟩
  subst hkv
  have HK : Hid (KeysIn s ks) := ⟨hks, fun k => by rw [hkm]; exact ⟨fun h => h.1, fun h => ⟨h, nil_le k, .inl rfl⟩⟩⟩
  have HKB : Hid (Below w.heap.size w w1) := hkb
  have hS1 : StoreAt w1 p b D s := H.out.grown hkb
  have HS1 : Hid (StoreAt w1 p b D s) := hS1
  have HKR : Hid (w1.reads 1 (.slice ka ks.length kcap) (ks.map fun k => [Value.string k])) := hko.reads
  have htot := HB.out.tot
  have HT : Hid (totN s ks ≤ 1000000) := by have := htot ks (keys_nodup (s := s) hks); have := HB.out.good.rev; show totN s ks ≤ _; unfold totN; omega
  obtain ⟨c0, c1, c2, cf⟩ := st_cells hS1.blk
  have hp1 : p < w1.heap.size := (Array.getElem?_eq_some_iff.1 hS1.blk).1
  clear hko hkn hks hkm hkb hS1 htot H
  go_wp2_with fail
  go_loopw [4, 18] (fun m i wr => ∃ k : Nat, k ≤ ks.length ∧ i = .int .i64 k ∧ m = .int .i64 (totN s (ks.take k)) ∧ Below w1.heap.size w1 wr) (fun _ i _ => ks.length - (intOf i).toNat)
  case atStart => exact ⟨0, Nat.zero_le _, rfl, rfl, Below.refl _ _⟩
  case round =>
    obtain ⟨k, hk, rfl, rfl, hb⟩ := hrel
    by_cases hlt : k < ks.length
    · have hkr' : wr.reads 1 (.slice ka ks.length kcap) (ks.map fun k => [Value.string k]) := readsGr HKR.out hb
      obtain ⟨g, o, rfl, hg, d0⟩ := Str.at_reads hkr' hlt
      have hSr : StoreAt wr p b D s := HS1.out.grown hb
      obtain ⟨ah, caph, _, hrun⟩ := look_run hSr ks[k] ((HK.out.2 _).1 (List.getElem_mem hlt))
      have hsum : totN s (ks.take (k + 1)) = totN s (ks.take k) + (s.vers ks[k]).length := take_sum hlt
      have hle : totN s (ks.take (k + 1)) ≤ 1000000 := by
        have h1 := HB.out.tot (ks.take (k + 1)) ((keys_nodup (s := s) HK.out.1).sublist (List.take_sublist _ _))
        have := HB.out.good.rev
        unfold totN; omega
      obtain ⟨c0, c1, c2, cf⟩ := st_cells hSr.blk
      have hp : p < wr.heap.size := (Array.getElem?_eq_some_iff.1 hSr.blk).1
      have hlk := hrun wr rfl
      have hlk2 := hrun wr.drew rfl
      have HSUM : Hid (totN s (ks.take (k + 1)) = totN s (ks.take k) + (s.vers ks[k]).length) := hsum
      generalize (s.vers ks[k]).length = vn at *
      generalize totN s (ks.take k) = tn at *
      rw [hsum] at hle
      generalize ks[k] = key at *
      have hk1 : (k : Int) < ks.length := by omega
      have hb1 : (tn : Int) + vn ≤ 1000000 := by omega
      clear hkr' hSr hrun hsum
      go_wp2_with fail
      exact ⟨⟨k + 1, by omega, val_int (by omega), by rw [HSUM.out]; exact val_int (by omega), hb⟩, by simp [intOf]; omega⟩
    · have hkk : k = ks.length := by omega
      subst hkk
      rw [List.take_length]
      have hsr := HB.out.good.rev
      have hsf := HB.out.good.floor
      have HR3 : Hid (s.rev ≤ 1000000 ∧ s.floor ≤ 1000000) := ⟨by omega, by omega⟩
      clear c0 c1 c2 cf hp1 hsr hsf hk hlt
      obtain ⟨c0, c1, c2, cf⟩ := st_cells (HS1.out.grown hb).blk
      have hp : p < wr.heap.size := (Array.getElem?_eq_some_iff.1 (HS1.out.grown hb).blk).1
      go_wp2_with fail
      refine (appendNumber nilS [] s.rev wr w1.heap.size (OwnB.nil _ _) hb.size (by have := HR3.out.1; omega) (by simp)).mono ?_
      rintro e w2 ⟨v2, rfl, ho2, hg2⟩
      have HI2 : Hid (SInv w1 w2 v2 ([] ++ be 3 s.rev)) := SInv.step (v := nilS) (l := []) ⟨OwnB.nil _ _, hb⟩ (Below.refl _ _) ho2 hg2
      clear c0 c1 c2 cf hp ho2 hg2 hb
      obtain ⟨c0, c1, c2, cf⟩ := st_cells (HS1.out.grown HI2.out.below).blk
      have hp : p < w2.heap.size := (Array.getElem?_eq_some_iff.1 (HS1.out.grown HI2.out.below).blk).1
      go_wp2_with fail
      refine (appendNumber v2 _ s.floor w2 w1.heap.size HI2.out.own HI2.out.below.size (by have := HR3.out.2; omega) (by simp [be_length])).mono ?_
      rintro e w3 ⟨v3, rfl, ho3, hg3⟩
      have HI3 : Hid (SInv w1 w3 v3 (([] ++ be 3 s.rev) ++ be 3 s.floor)) := HI2.out.step (Below.refl _ _) ho3 hg3
      clear c0 c1 c2 cf hp ho3 hg3 HI2
      go_wp2_with fail
      refine (appendNumber v3 _ (totN s ks) w3 w1.heap.size HI3.out.own HI3.out.below.size (by have := HT.out; omega) (by simp [be_length])).mono ?_
      rintro e w4 ⟨v4, rfl, ho4, hg4⟩
      have HI4 : Hid (SInv w1 w4 v4 ((([] ++ be 3 s.rev) ++ be 3 s.floor) ++ be 3 (totN s ks))) := HI3.out.step (Below.refl _ _) ho4 hg4
      clear ho4 hg4 HI3
      rw [List.nil_append] at HI4
      go_wp2_with fail
      as_aux_lemma =>
      obtain ⟨hdr, hhdr⟩ : ∃ hdr, be 3 s.rev ++ be 3 s.floor ++ be 3 (totN s ks) = hdr := ⟨_, rfl⟩
      have HHDR : Hid (be 3 s.rev ++ be 3 s.floor ++ be 3 (totN s ks) = hdr ∧ hdr.length = 9) := ⟨hhdr, by rw [← hhdr]; simp [be_length]⟩
      rw [hhdr] at HI4
      clear hhdr
      go_loopw [7, 48] (fun v i wr => ∃ k : Nat, k ≤ ks.length ∧ i = .int .i64 k ∧ Hid (SInv w1 wr v (hdr ++ versL s (ks.take k)))) (fun _ i _ => ks.length - (intOf i).toNat)
      case atStart => exact ⟨0, Nat.zero_le _, rfl, by show SInv _ _ _ _; rw [List.take_zero]; simpa [versL] using HI4.out⟩
      case round =>
        clear HI4
        obtain ⟨k, hk, rfl, HI⟩ := hrel
        by_cases hlt : k < ks.length
        · as_aux_lemma =>
          have hb := HI.out.below
          have hkr' : wr.reads 1 (.slice ka ks.length kcap) (ks.map fun k => [Value.string k]) := readsGr HKR.out hb
          obtain ⟨g, o, rfl, hg, d0⟩ := Str.at_reads hkr' hlt
          have hne := (HK.out.2 _).1 (List.getElem_mem hlt)
          obtain ⟨ah, caph, hvr, hrun⟩ := look_run HS1.out ks[k] hne
          have hbm := HS1.out.map.map.lt
          have hlk := hrun wr (hb.block b hbm)
          have hlk2 := hrun wr.drew (hb.block b hbm)
          obtain ⟨c0, c1, c2, cf⟩ := st_cells (HS1.out.grown hb).blk
          have hp : p < wr.heap.size := (Array.getElem?_eq_some_iff.1 (HS1.out.grown hb).blk).1
          have HS : Hid (versL s (ks.take (k + 1)) = versL s (ks.take k) ++ (s.vers ks[k]).flatMap (verL ks[k])) := versL_snoc hlt
          have HLEN : Hid ((hdr ++ versL s (ks.take k)).length ≤ 100000000 ∧ (s.vers ks[k]).length ≤ 1000000 ∧ ks[k].size ≤ 8 ∧ (∀ v ∈ s.vers ks[k], v.val.size ≤ 8 ∧ v.rev ≤ 1000000)) := by
            have h1 := versL_len HB.out (ks.take k) fun x hx => (HK.out.2 x).1 (List.mem_of_mem_take hx)
            have h2 := HB.out.tot (ks.take k) ((keys_nodup (s := s) HK.out.1).sublist (List.take_sublist _ _))
            have h3 := HR3.out.1
            have h4 := HHDR.out.2
            refine ⟨by rw [List.length_append]; unfold totN at h1; omega, HB.out.good.len _, HB.out.key _ hne, fun v hv => ⟨HB.out.val _ v hv, by have := (HB.out.good.bd _ v hv).2; omega⟩⟩
          have HVR : Hid (w1.reads 3 (.slice ah (s.vers ks[k]).length caph) ((s.vers ks[k]).map Ver.cells)) := hvr
          obtain ⟨pre, hpre⟩ : ∃ pre, hdr ++ versL s (ks.take k) = pre := ⟨_, rfl⟩
          rw [hpre] at HI HLEN
          have HPRE : Hid (hdr ++ versL s (ks.take (k + 1)) = pre ++ (s.vers ks[k]).flatMap (verL ks[k])) := by show _ = _; rw [HS.out, ← List.append_assoc, hpre]
          clear hpre HS
          generalize ks[k] = key at *
          have hk1 : (k : Int) < ks.length := by omega
          clear hkr' hrun hne hvr
          go_wp2_with fail
          have HVR2 := HVR.out
          have hlv := HLEN.out.2.1
          generalize hvs : s.vers key = vs at *
          clear c0 c1 c2 cf hp d0 hlk hlk2 hb hg
          go_loopw [7, 59] (fun v i wr => ∃ j : Nat, j ≤ vs.length ∧ i = .int .i64 j ∧ Hid (SInv w1 wr v (pre ++ (vs.take j).flatMap (verL key)))) (fun _ i _ => vs.length - (intOf i).toNat)
          case atStart => exact ⟨0, Nat.zero_le _, rfl, by show SInv _ _ _ _; rw [List.take_zero, List.flatMap_nil, List.append_nil]; exact HI.out⟩
          case round =>
            clear HI
            obtain ⟨j, hj, rfl, HJ⟩ := hrel
            by_cases hjl : j < vs.length
            · have hb := HJ.out.below
              obtain ⟨gv, ov, rfl, hgv, hvv⟩ := ver_at (readsGr HVR2 hb) hjl
              have HN : Hid (pre ++ (vs.take (j + 1)).flatMap (verL key) = (pre ++ (vs.take j).flatMap (verL key)) ++ verL key vs[j]) := by
                show _ = _
                rw [List.take_add_one, List.getElem?_eq_getElem hjl, List.flatMap_append, ← List.append_assoc]
                simp
              have HL2 : Hid ((pre ++ (vs.take j).flatMap (verL key)).length ≤ 1000000000) := by
                have h1 := flat_len (verL key) (vs.take j) 22 fun v hv => verL_len key v HLEN.out.2.2.1 (HLEN.out.2.2.2 v (List.mem_of_mem_take hv)).1
                have h2 := HLEN.out.1
                have h3 : (vs.take j).length ≤ vs.length := by rw [List.length_take]; omega
                show _ ≤ _
                rw [List.length_append]; omega
              have hmem := HLEN.out.2.2.2 vs[j] (List.getElem_mem hjl)
              have HMM : Hid (key.size ≤ 8 ∧ vs[j].val.size ≤ 8 ∧ vs[j].rev ≤ 1000000) := ⟨HLEN.out.2.2.1, hmem.1, hmem.2⟩
              obtain ⟨e0, e1, e2⟩ := Ver.off hvv
              generalize vs[j] = x at *
              generalize pre ++ (vs.take j).flatMap (verL key) = pl at *
              have hj1 : (j : Int) < vs.length := by omega
              have hcall := fun W (hW : Below wr.heap.size wr W) => appendVersion u7 pl key x W w1.heap.size (HJ.out.grow hW).own (HJ.out.grow hW).below.size HMM.out.1 HMM.out.2.1 HMM.out.2.2 HL2.out
              have HCALL : Hid _ := hcall
              clear hcall hmem hvv HVR2
              go_wp2_with fail
              refine (HCALL.out _ (by repeat (first | exact Below.refl _ _ | assumption | with_reducible refine below_drewN ?_ _ | refine Gr.ext ?_ _ | refine Gr.alloc ?_ _ | refine Gr.drew ?_ | (refine Gr.set ?_ (by first | (simp; done) | (simp; omega)) _)))).mono ?_
              rintro e w7 ⟨v7, rfl, ho7, hg7⟩
              have HJ7 : Hid (SInv w1 w7 v7 (pl ++ verL key x)) := HJ.out.step (by repeat (first | exact Below.refl _ _ | assumption | with_reducible refine below_drewN ?_ _ | refine Gr.ext ?_ _ | refine Gr.alloc ?_ _ | refine Gr.drew ?_ | (refine Gr.set ?_ (by first | (simp; done) | (simp; omega)) _))) ho7 hg7
              clear ho7 hg7 e0 e1 e2 HCALL
              go_wp2_with fail
              exact ⟨⟨j + 1, by omega, val_int (by omega), by rw [HN.out]; exact HJ7⟩, by simp [intOf]; omega⟩
            · have hjj : j = vs.length := by omega
              subst hjj
              rw [List.take_length] at HJ
              go_wp2_with fail
              all_goals exact ⟨⟨k + 1, by omega, val_int (by omega), by rw [HPRE.out]; exact HJ⟩, by simp [intOf]; omega⟩
        · have hkk : k = ks.length := by omega
          subst hkk
          rw [List.take_length] at HI
          as_aux_lemma =>
          have h8 : s.ss.length = 8 := HB.out.good.ss
          obtain ⟨x0, x1, x2, x3, x4, x5, x6, x7, hss⟩ : ∃ x0 x1 x2 x3 x4 x5 x6 x7 : Nat × Res, s.ss = [x0, x1, x2, x3, x4, x5, x6, x7] := by
            match hl : s.ss, h8 with
            | [x0, x1, x2, x3, x4, x5, x6, x7], _ => exact ⟨x0, x1, x2, x3, x4, x5, x6, x7, rfl⟩
          have hblk := (HS1.out.grown HI.out.below).blk
          have hrange := st_range8 hblk hss
          have hp : p < wr.heap.size := (Array.getElem?_eq_some_iff.1 hblk).1
          have HSS : Hid (s.ss = [x0, x1, x2, x3, x4, x5, x6, x7]) := hss
          have HSB : Hid ((∀ x ∈ s.ss, x.1 ≤ 1000000) ∧ ∀ x ∈ s.ss, 0 ≤ x.2.rev ∧ x.2.rev ≤ 1000000) := ⟨HB.out.seq, fun x hx => ⟨(HB.out.res x hx).1, by have := (HB.out.res x hx).2; have := HR3.out.1; omega⟩⟩
          clear hss hblk h8
          go_wp2_with (refine wpList_load_mid rfl 139 _ rfl p 3 rfl _ _ hrange Try.underlying139 rfl (by kernel_rfl) ?_)
          clear hrange hp
          as_aux_lemma =>
          obtain ⟨pre, hpre⟩ : ∃ pre, hdr ++ versL s ks = pre := ⟨_, rfl⟩
          have HPL : Hid (pre.length ≤ 100000000) := by
            have h1 := versL_len HB.out ks fun x hx => (HK.out.2 x).1 hx
            have h2 := HT.out
            have h4 := HHDR.out.2
            show _ ≤ _
            rw [← hpre, List.length_append]; omega
          have HPE : Hid (saveL s ks = pre ++ s.ss.flatMap sesL) := by show _ = _; unfold saveL; rw [HHDR.out.1, hpre]
          rw [hpre] at HI
          clear hpre
          have HN : Hid (∀ (k : Nat) (x : Nat × Res), s.ss[k]? = some x → pre ++ (s.ss.take (k + 1)).flatMap sesL = (pre ++ (s.ss.take k).flatMap sesL) ++ sesL x) := fun k x hx => by
            rw [List.take_add_one, hx, List.flatMap_append, ← List.append_assoc]; simp
          have HLB : Hid (∀ k, (pre ++ (s.ss.take k).flatMap sesL).length ≤ 1000000000) := fun k => by
            have h1 := flat_len sesL (s.ss.take k) 7 fun x _ => by simp [sesL, flagL, be_length]
            have h2 : (s.ss.take k).length ≤ 8 := by rw [List.length_take, HB.out.good.ss]; omega
            have := HPL.out
            rw [List.length_append]; omega
          have HCALL : Hid (∀ (W : World) (x : Nat × Res) (v : Value) (pl : List UInt8), x ∈ s.ss → SInv w1 W v pl → pl.length ≤ 1000000000 → Calls Try.prog 77 #[v, .agg #[.int .i64 x.1, .bool x.2.ok, .int .i64 x.2.rev, .bool x.2.stale]] W fun e w' => ∃ v', e = .returned v' ∧ Hid (OwnB w' w1.heap.size v' (pl ++ sesL x) ∧ Grew W w' v v')) := fun W x v pl hx hS hl => (appendSession v pl x W w1.heap.size hS.own hS.below.size (HSB.out.1 x hx) (HSB.out.2 x hx).1 (HSB.out.2 x hx).2 hl).mono fun e w' ⟨v', h1, h2, h3⟩ => ⟨v', h1, h2, h3⟩
          go_loopw [7, 73] (fun v i wr => ∃ k : Nat, k ≤ 8 ∧ i = .int .i64 k ∧ Hid (SInv w1 wr v (pre ++ (s.ss.take k).flatMap sesL))) (fun _ i _ => 8 - (intOf i).toNat)
          case atStart => exact ⟨0, Nat.zero_le _, rfl, by show SInv _ _ _ _; rw [List.take_zero, List.flatMap_nil, List.append_nil]; exact HI.out⟩
          case round =>
            clear HI
            obtain ⟨k, hk, rfl, HJ⟩ := hrel
            rcases (by omega : k = 0 ∨ k = 1 ∨ k = 2 ∨ k = 3 ∨ k = 4 ∨ k = 5 ∨ k = 6 ∨ k = 7 ∨ k = 8) with rfl | rfl | rfl | rfl | rfl | rfl | rfl | rfl | rfl
            · as_aux_lemma =>
              have hidx := sesIndex0 x0 x1 x2 x3 x4 x5 x6 x7
              go_wp2_with fail
              refine (HCALL.out _ x0 _ _ (by rw [HSS.out]; simp) (HJ.out.grow (by repeat (first | exact Below.refl _ _ | assumption | with_reducible refine below_drewN ?_ _ | refine Gr.ext ?_ _ | refine Gr.alloc ?_ _ | refine Gr.drew ?_ | (refine Gr.set ?_ (by first | (simp; done) | (simp; omega)) _)))) (HLB.out _)).mono ?_
              rintro e w7 ⟨v7, rfl, h7⟩
              have HJ7 : Hid (SInv w1 w7 v7 (pre ++ (s.ss.take 1).flatMap sesL)) := by
                show SInv _ _ _ _
                rw [HN.out 0 x0 (by rw [HSS.out]; rfl)]
                exact HJ.out.step (by repeat (first | exact Below.refl _ _ | assumption | with_reducible refine below_drewN ?_ _ | refine Gr.ext ?_ _ | refine Gr.alloc ?_ _ | refine Gr.drew ?_ | (refine Gr.set ?_ (by first | (simp; done) | (simp; omega)) _))) h7.out.1 h7.out.2
              clear hidx h7
              go_wp2_with fail
              exact ⟨⟨1, by omega, rfl, HJ7⟩, by simp [intOf]⟩
            · as_aux_lemma =>
              have hidx := sesIndex1 x0 x1 x2 x3 x4 x5 x6 x7
              go_wp2_with fail
              refine (HCALL.out _ x1 _ _ (by rw [HSS.out]; simp) (HJ.out.grow (by repeat (first | exact Below.refl _ _ | assumption | with_reducible refine below_drewN ?_ _ | refine Gr.ext ?_ _ | refine Gr.alloc ?_ _ | refine Gr.drew ?_ | (refine Gr.set ?_ (by first | (simp; done) | (simp; omega)) _)))) (HLB.out _)).mono ?_
              rintro e w7 ⟨v7, rfl, h7⟩
              have HJ7 : Hid (SInv w1 w7 v7 (pre ++ (s.ss.take 2).flatMap sesL)) := by
                show SInv _ _ _ _
                rw [HN.out 1 x1 (by rw [HSS.out]; rfl)]
                exact HJ.out.step (by repeat (first | exact Below.refl _ _ | assumption | with_reducible refine below_drewN ?_ _ | refine Gr.ext ?_ _ | refine Gr.alloc ?_ _ | refine Gr.drew ?_ | (refine Gr.set ?_ (by first | (simp; done) | (simp; omega)) _))) h7.out.1 h7.out.2
              clear hidx h7
              go_wp2_with fail
              exact ⟨⟨2, by omega, rfl, HJ7⟩, by simp [intOf]⟩
            · as_aux_lemma =>
              have hidx := sesIndex2 x0 x1 x2 x3 x4 x5 x6 x7
              go_wp2_with fail
              refine (HCALL.out _ x2 _ _ (by rw [HSS.out]; simp) (HJ.out.grow (by repeat (first | exact Below.refl _ _ | assumption | with_reducible refine below_drewN ?_ _ | refine Gr.ext ?_ _ | refine Gr.alloc ?_ _ | refine Gr.drew ?_ | (refine Gr.set ?_ (by first | (simp; done) | (simp; omega)) _)))) (HLB.out _)).mono ?_
              rintro e w7 ⟨v7, rfl, h7⟩
              have HJ7 : Hid (SInv w1 w7 v7 (pre ++ (s.ss.take 3).flatMap sesL)) := by
                show SInv _ _ _ _
                rw [HN.out 2 x2 (by rw [HSS.out]; rfl)]
                exact HJ.out.step (by repeat (first | exact Below.refl _ _ | assumption | with_reducible refine below_drewN ?_ _ | refine Gr.ext ?_ _ | refine Gr.alloc ?_ _ | refine Gr.drew ?_ | (refine Gr.set ?_ (by first | (simp; done) | (simp; omega)) _))) h7.out.1 h7.out.2
              clear hidx h7
              go_wp2_with fail
              exact ⟨⟨3, by omega, rfl, HJ7⟩, by simp [intOf]⟩
            · as_aux_lemma =>
              have hidx := sesIndex3 x0 x1 x2 x3 x4 x5 x6 x7
              go_wp2_with fail
              refine (HCALL.out _ x3 _ _ (by rw [HSS.out]; simp) (HJ.out.grow (by repeat (first | exact Below.refl _ _ | assumption | with_reducible refine below_drewN ?_ _ | refine Gr.ext ?_ _ | refine Gr.alloc ?_ _ | refine Gr.drew ?_ | (refine Gr.set ?_ (by first | (simp; done) | (simp; omega)) _)))) (HLB.out _)).mono ?_
              rintro e w7 ⟨v7, rfl, h7⟩
              have HJ7 : Hid (SInv w1 w7 v7 (pre ++ (s.ss.take 4).flatMap sesL)) := by
                show SInv _ _ _ _
                rw [HN.out 3 x3 (by rw [HSS.out]; rfl)]
                exact HJ.out.step (by repeat (first | exact Below.refl _ _ | assumption | with_reducible refine below_drewN ?_ _ | refine Gr.ext ?_ _ | refine Gr.alloc ?_ _ | refine Gr.drew ?_ | (refine Gr.set ?_ (by first | (simp; done) | (simp; omega)) _))) h7.out.1 h7.out.2
              clear hidx h7
              go_wp2_with fail
              exact ⟨⟨4, by omega, rfl, HJ7⟩, by simp [intOf]⟩
            · as_aux_lemma =>
              have hidx := sesIndex4 x0 x1 x2 x3 x4 x5 x6 x7
              go_wp2_with fail
              refine (HCALL.out _ x4 _ _ (by rw [HSS.out]; simp) (HJ.out.grow (by repeat (first | exact Below.refl _ _ | assumption | with_reducible refine below_drewN ?_ _ | refine Gr.ext ?_ _ | refine Gr.alloc ?_ _ | refine Gr.drew ?_ | (refine Gr.set ?_ (by first | (simp; done) | (simp; omega)) _)))) (HLB.out _)).mono ?_
              rintro e w7 ⟨v7, rfl, h7⟩
              have HJ7 : Hid (SInv w1 w7 v7 (pre ++ (s.ss.take 5).flatMap sesL)) := by
                show SInv _ _ _ _
                rw [HN.out 4 x4 (by rw [HSS.out]; rfl)]
                exact HJ.out.step (by repeat (first | exact Below.refl _ _ | assumption | with_reducible refine below_drewN ?_ _ | refine Gr.ext ?_ _ | refine Gr.alloc ?_ _ | refine Gr.drew ?_ | (refine Gr.set ?_ (by first | (simp; done) | (simp; omega)) _))) h7.out.1 h7.out.2
              clear hidx h7
              go_wp2_with fail
              exact ⟨⟨5, by omega, rfl, HJ7⟩, by simp [intOf]⟩
            · as_aux_lemma =>
              have hidx := sesIndex5 x0 x1 x2 x3 x4 x5 x6 x7
              go_wp2_with fail
              refine (HCALL.out _ x5 _ _ (by rw [HSS.out]; simp) (HJ.out.grow (by repeat (first | exact Below.refl _ _ | assumption | with_reducible refine below_drewN ?_ _ | refine Gr.ext ?_ _ | refine Gr.alloc ?_ _ | refine Gr.drew ?_ | (refine Gr.set ?_ (by first | (simp; done) | (simp; omega)) _)))) (HLB.out _)).mono ?_
              rintro e w7 ⟨v7, rfl, h7⟩
              have HJ7 : Hid (SInv w1 w7 v7 (pre ++ (s.ss.take 6).flatMap sesL)) := by
                show SInv _ _ _ _
                rw [HN.out 5 x5 (by rw [HSS.out]; rfl)]
                exact HJ.out.step (by repeat (first | exact Below.refl _ _ | assumption | with_reducible refine below_drewN ?_ _ | refine Gr.ext ?_ _ | refine Gr.alloc ?_ _ | refine Gr.drew ?_ | (refine Gr.set ?_ (by first | (simp; done) | (simp; omega)) _))) h7.out.1 h7.out.2
              clear hidx h7
              go_wp2_with fail
              exact ⟨⟨6, by omega, rfl, HJ7⟩, by simp [intOf]⟩
            · as_aux_lemma =>
              have hidx := sesIndex6 x0 x1 x2 x3 x4 x5 x6 x7
              go_wp2_with fail
              refine (HCALL.out _ x6 _ _ (by rw [HSS.out]; simp) (HJ.out.grow (by repeat (first | exact Below.refl _ _ | assumption | with_reducible refine below_drewN ?_ _ | refine Gr.ext ?_ _ | refine Gr.alloc ?_ _ | refine Gr.drew ?_ | (refine Gr.set ?_ (by first | (simp; done) | (simp; omega)) _)))) (HLB.out _)).mono ?_
              rintro e w7 ⟨v7, rfl, h7⟩
              have HJ7 : Hid (SInv w1 w7 v7 (pre ++ (s.ss.take 7).flatMap sesL)) := by
                show SInv _ _ _ _
                rw [HN.out 6 x6 (by rw [HSS.out]; rfl)]
                exact HJ.out.step (by repeat (first | exact Below.refl _ _ | assumption | with_reducible refine below_drewN ?_ _ | refine Gr.ext ?_ _ | refine Gr.alloc ?_ _ | refine Gr.drew ?_ | (refine Gr.set ?_ (by first | (simp; done) | (simp; omega)) _))) h7.out.1 h7.out.2
              clear hidx h7
              go_wp2_with fail
              exact ⟨⟨7, by omega, rfl, HJ7⟩, by simp [intOf]⟩
            · as_aux_lemma =>
              have hidx := sesIndex7 x0 x1 x2 x3 x4 x5 x6 x7
              go_wp2_with fail
              refine (HCALL.out _ x7 _ _ (by rw [HSS.out]; simp) (HJ.out.grow (by repeat (first | exact Below.refl _ _ | assumption | with_reducible refine below_drewN ?_ _ | refine Gr.ext ?_ _ | refine Gr.alloc ?_ _ | refine Gr.drew ?_ | (refine Gr.set ?_ (by first | (simp; done) | (simp; omega)) _)))) (HLB.out _)).mono ?_
              rintro e w7 ⟨v7, rfl, h7⟩
              have HJ7 : Hid (SInv w1 w7 v7 (pre ++ (s.ss.take 8).flatMap sesL)) := by
                show SInv _ _ _ _
                rw [HN.out 7 x7 (by rw [HSS.out]; rfl)]
                exact HJ.out.step (by repeat (first | exact Below.refl _ _ | assumption | with_reducible refine below_drewN ?_ _ | refine Gr.ext ?_ _ | refine Gr.alloc ?_ _ | refine Gr.drew ?_ | (refine Gr.set ?_ (by first | (simp; done) | (simp; omega)) _))) h7.out.1 h7.out.2
              clear hidx h7
              go_wp2_with fail
              exact ⟨⟨8, by omega, rfl, HJ7⟩, by simp [intOf]⟩
            · as_aux_lemma =>
              have hall : s.ss.take 8 = s.ss := by rw [HSS.out]; rfl
              rw [hall] at HJ
              have hown := HJ.out.own
              have hconv := conv_own hown
              have hbb := HJ.out.below
              have HE : Hid (pre ++ s.ss.flatMap sesL = saveL s ks) := HPE.out.symm
              clear hall hown
              go_wp2_with fail
              exact bodyPost_ret (v := .string (B (pre ++ s.ss.flatMap sesL))) (by simp [results, Try.results34, go_sem]) rfl ⟨ks, HK.out, by rw [HE.out], HKB.out.trans (hbb.mono HKB.out.size)⟩
theorem saveL_same {s : St} {ks ks' : List ByteArray} (h : KeysIn s ks) (h' : KeysIn s ks') : ks = ks' := by
  have hp : ks.Perm ks' := (List.perm_ext_iff_of_nodup (keys_nodup (s := s) h.1) (keys_nodup (s := s) h'.1)).2 fun k => by rw [h.2, h'.2]
  refine List.Perm.eq_of_pairwise (le := fun a b => a.data.toList < b.data.toList) (fun a b _ _ h1 h2 => ?_) h.1 h'.1 hp
  exact absurd (List.lt_trans h1 h2) (List.lt_irrefl _)
end Go.Proofs.Ytcbbnmodjnnbeaa
/- What Load makes of bytes: the function. -/
set_option linter.unusedSimpArgs false
set_option linter.unusedVariables false
namespace Go.Proofs.Ytcbbnmodjnnbeaa
open Go.RowKit

def flagR (l : List UInt8) (b : Bool) : Bool × List UInt8 × Bool := if 1 < (byteL l b).1 then (false, [], true) else ((byteL l b).1 == 1, (byteL l b).2)
theorem flag_be (g : Bool) : flagL g = be 1 (if g then 1 else 0) := by cases g <;> rfl
theorem flag_fwd (g : Bool) (l : List UInt8) : flagR (flagL g ++ l) false = (g, l, false) := by
  unfold flagR
  rw [flag_be, byteL_fwd _ _ (by cases g <;> decide)]
  cases g <;> rfl
theorem flag_back (l : List UInt8) (b : Bool) (h : (flagR l b).2.2 = false) : b = false ∧ ∃ g l', l = flagL g ++ l' ∧ flagR l b = (g, l', false) := by
  unfold flagR at h ⊢
  by_cases hn : 1 < (byteL l b).1
  · rw [if_pos hn] at h; cases h
  · rw [if_neg hn] at h ⊢
    obtain ⟨hb, n, l', hn', hl, hbt⟩ := byteL_back l b h
    rw [hbt] at hn ⊢
    rcases (by simp only at hn; omega : n = 0 ∨ n = 1) with rfl | rfl
    · exact ⟨hb, false, l', hl, rfl⟩
    · exact ⟨hb, true, l', hl, rfl⟩
def pairL (x : ByteArray × Ver) : List UInt8 := verL x.1 x.2
def verR (l : List UInt8) (b : Bool) : (ByteArray × Ver) × List UInt8 × Bool :=
  let k := textL l b
  let r := numL k.2.1 k.2.2
  let g := flagR r.2.1 r.2.2
  let x := textL g.2.1 g.2.2
  ((B k.1, ⟨r.1, B x.1, g.1⟩), x.2)
theorem ver_fwd (x : ByteArray × Ver) (l : List UInt8) (h1 : x.1.size ≤ 8) (h2 : x.2.val.size ≤ 8) (h3 : x.2.rev ≤ 1000000) : verR (pairL x ++ l) false = (x, l, false) := by
  obtain ⟨k, r, v, g⟩ := x
  have e : pairL (k, ⟨r, v, g⟩) ++ l = be 1 k.data.toList.length ++ (k.data.toList ++ (be 3 r ++ (flagL g ++ (be 1 v.data.toList.length ++ (v.data.toList ++ l))))) := by
    simp only [pairL, verL, List.append_assoc, len_data]
  have h1' : k.data.toList.length < 256 := by rw [len_data]; simp only at h1; omega
  have h2' : v.data.toList.length < 256 := by rw [len_data]; simp only at h2; omega
  have h3' : r < 16777216 := by simp only at h3; omega
  rw [e]
  unfold verR
  rw [textL_fwd _ _ h1']
  simp only
  rw [numL_fwd _ _ h3']
  simp only
  rw [flag_fwd]
  simp only
  rw [textL_fwd _ _ h2', B_eta, B_eta]
theorem ver_back (l : List UInt8) (b : Bool) (h : (verR l b).2.2 = false) : b = false ∧ ∃ x l', l = pairL x ++ l' ∧ verR l b = (x, l', false) := by
  unfold verR at h ⊢
  simp only at h ⊢
  generalize hA : textL l b = A at h ⊢
  generalize hR : numL A.2.1 A.2.2 = R at h ⊢
  generalize hG : flagR R.2.1 R.2.2 = G at h ⊢
  generalize hX : textL G.2.1 G.2.2 = X at h ⊢
  obtain ⟨h4, v, l4, hv, e4, q4⟩ := textL_back G.2.1 G.2.2 (by rw [hX]; exact h)
  obtain ⟨h3, g, l3, e3, q3⟩ := flag_back R.2.1 R.2.2 (by rw [hG]; exact h4)
  obtain ⟨h2, r, l2, hr, e2, q2⟩ := numL_back A.2.1 A.2.2 (by rw [hR]; exact h3)
  obtain ⟨h1, k, l1, hk, e1, q1⟩ := textL_back l b (by rw [hA]; exact h2)
  rw [hX] at q4; rw [hG] at q3; rw [hR] at q2; rw [hA] at q1
  subst q1 q2 q3 q4
  simp only at e2 e3 e4
  refine ⟨h1, (B k, ⟨r, B v, g⟩), l4, ?_, rfl⟩
  simp only [pairL, verL, List.append_assoc, B_size, B_list]
  rw [← e4, ← e3, ← e2, ← e1]
def mayV (r : Nat) (x : ByteArray × Ver) : Bool := !(x.2.gone && !noB x.2.val) && keyB x.1 && valB x.2.val && decide (1 ≤ x.2.rev) && decide (x.2.rev ≤ r)
theorem mayV_iff (r : Nat) (x : ByteArray × Ver) : mayV r x = true ↔ (x.2.gone = true → x.2.val.size = 0) ∧ (1 ≤ x.1.size ∧ x.1.size ≤ 8) ∧ x.2.val.size ≤ 8 ∧ 1 ≤ x.2.rev ∧ x.2.rev ≤ r := by
  unfold mayV keyB valB noB
  simp only [Bool.and_eq_true, decide_eq_true_eq, Bool.not_eq_true', Bool.and_eq_false_iff, Bool.not_eq_false', and_assoc]
  constructor
  · rintro ⟨h1, h2⟩
    exact ⟨fun hg => by rcases h1 with h1 | h1; · rw [hg] at h1; cases h1
                        · simpa using h1, h2⟩
  · rintro ⟨h1, h2⟩
    refine ⟨?_, h2⟩
    cases hg : x.2.gone
    · exact .inl rfl
    · exact .inr (by simpa using h1 hg)
def OkV (s : St) (t : List Nat) (last : ByteArray) (x : ByteArray × Ver) : Prop := ¬ x.2.rev ∈ t ∧ last.data.toList ≤ x.1.data.toList ∧ upToN (s.vers x.1) x.2.rev = (s.vers x.1).length ∧ mayV s.rev x = true
def St.put1 (s : St) (x : ByteArray × Ver) : St := { s with vers := fun k => if k = x.1 then s.vers x.1 ++ [x.2] else s.vers k }
open Classical in
noncomputable def takeV : Nat → St → List Nat → ByteArray → List UInt8 → Bool → Option (St × List UInt8 × Bool)
  | 0, s, _, _, l, b => some (s, l, b)
  | n + 1, s, t, last, l, b => if OkV s t last (verR l b).1 then takeV n (s.put1 (verR l b).1) ((verR l b).1.2.rev :: t) (verR l b).1.1 (verR l b).2.1 (verR l b).2.2 else none
theorem takeV_yes {n : Nat} {s : St} {t : List Nat} {last : ByteArray} {l : List UInt8} {b : Bool} (h : OkV s t last (verR l b).1) : takeV (n + 1) s t last l b = takeV n (s.put1 (verR l b).1) ((verR l b).1.2.rev :: t) (verR l b).1.1 (verR l b).2.1 (verR l b).2.2 := by
  rw [takeV]; exact if_pos h
theorem takeV_no {n : Nat} {s : St} {t : List Nat} {last : ByteArray} {l : List UInt8} {b : Bool} (h : ¬ OkV s t last (verR l b).1) : takeV (n + 1) s t last l b = none := by
  rw [takeV]; exact if_neg h
def OkP : St → List Nat → ByteArray → List (ByteArray × Ver) → Prop
  | _, _, _, [] => True
  | s, t, last, x :: xs => OkV s t last x ∧ OkP (s.put1 x) (x.2.rev :: t) x.1 xs
def putAll : St → List (ByteArray × Ver) → St
  | s, [] => s
  | s, x :: xs => putAll (s.put1 x) xs
theorem takeV_back : ∀ (n : Nat) (s : St) (t : List Nat) (last : ByteArray) (l : List UInt8) (b : Bool) (s' : St) (l' : List UInt8), takeV n s t last l b = some (s', l', false) → b = false ∧ ∃ ps, ps.length = n ∧ OkP s t last ps ∧ l = ps.flatMap pairL ++ l' ∧ s' = putAll s ps
  | 0, s, t, last, l, b, s', l', h => by
    rw [takeV] at h
    injection h with h; injection h with h1 h2; injection h2 with h2 h3
    exact ⟨h3, [], rfl, trivial, h2, h1.symm⟩
  | n + 1, s, t, last, l, b, s', l', h => by
    by_cases hok : OkV s t last (verR l b).1
    · rw [takeV_yes hok] at h
      obtain ⟨hb, ps, hps, hok2, hl, hs⟩ := takeV_back n _ _ _ _ _ _ _ h
      obtain ⟨hb2, x, l2, e, q⟩ := ver_back l b hb
      rw [q] at hok hok2 hl hs
      refine ⟨hb2, x :: ps, by simp [hps], ⟨hok, hok2⟩, ?_, hs⟩
      simp only at hl
      rw [List.flatMap_cons, List.append_assoc, ← hl, ← e]
    · rw [takeV_no hok] at h; cases h
theorem takeV_fwd : ∀ (ps : List (ByteArray × Ver)) (s : St) (t : List Nat) (last : ByteArray) (l : List UInt8), OkP s t last ps → s.rev ≤ 1000000 → takeV ps.length s t last (ps.flatMap pairL ++ l) false = some (putAll s ps, l, false)
  | [], s, t, last, l, _, _ => by rw [List.length_nil, takeV]; rfl
  | x :: ps, s, t, last, l, h, hr => by
    have hm := (mayV_iff _ _).1 h.1.2.2.2
    have q : verR ((x :: ps).flatMap pairL ++ l) false = (x, ps.flatMap pairL ++ l, false) := by
      rw [List.flatMap_cons, List.append_assoc]
      exact ver_fwd x _ hm.2.1.2 hm.2.2.1 (by omega)
    rw [List.length_cons, takeV_yes (by rw [q]; exact h.1), q]
    exact takeV_fwd ps _ _ _ _ h.2 hr
theorem putAll_rest : ∀ (ps : List (ByteArray × Ver)) (s : St), (putAll s ps).rev = s.rev ∧ (putAll s ps).floor = s.floor ∧ (putAll s ps).ss = s.ss
  | [], s => ⟨rfl, rfl, rfl⟩
  | x :: ps, s => putAll_rest ps (s.put1 x)
def versOf (ps : List (ByteArray × Ver)) (k : ByteArray) : List Ver := (ps.filter fun x => decide (x.1 = k)).map (·.2)
theorem versOf_app (a b : List (ByteArray × Ver)) (k : ByteArray) : versOf (a ++ b) k = versOf a k ++ versOf b k := by simp [versOf]
theorem versOf_one (x : ByteArray × Ver) (k : ByteArray) : versOf [x] k = if k = x.1 then [x.2] else [] := by
  unfold versOf
  by_cases h : x.1 = k
  · rw [if_pos h.symm]; simp [h]
  · rw [if_neg (fun e => h e.symm)]; simp [h]
theorem mem_versOf {ps : List (ByteArray × Ver)} {k : ByteArray} {v : Ver} : v ∈ versOf ps k ↔ (k, v) ∈ ps := by
  unfold versOf
  simp only [List.mem_map, List.mem_filter, decide_eq_true_eq]
  constructor
  · rintro ⟨⟨k', v'⟩, ⟨h1, h2⟩, h3⟩
    simp only at h2 h3
    subst h2 h3; exact h1
  · intro h; exact ⟨(k, v), ⟨h, rfl⟩, rfl⟩
theorem putAll_vers : ∀ (ps : List (ByteArray × Ver)) (s : St) (done : List (ByteArray × Ver)), (∀ k, s.vers k = versOf done k) → ∀ k, (putAll s ps).vers k = versOf (done ++ ps) k
  | [], s, done, h => fun k => by rw [List.append_nil]; exact h k
  | x :: ps, s, done, h => fun k => by
    have := putAll_vers ps (s.put1 x) (done ++ [x]) (fun k => by
      rw [versOf_app, versOf_one]
      show (if k = x.1 then s.vers x.1 ++ [x.2] else s.vers k) = _
      by_cases e : k = x.1
      · rw [if_pos e, if_pos e, h, e]
      · rw [if_neg e, if_neg e, h, List.append_nil]) k
    rw [List.append_assoc] at this
    exact this
def Rel (x y : ByteArray × Ver) : Prop := x.1.data.toList ≤ y.1.data.toList ∧ x.2.rev ≠ y.2.rev ∧ (x.1 = y.1 → x.2.rev < y.2.rev)
theorem upToN_all (vs : List Ver) (r : Nat) : upToN vs r = vs.length ↔ ∀ v ∈ vs, v.rev ≤ r := by
  unfold upToN
  induction vs with
  | nil => simp
  | cons x xs ih =>
    by_cases h : x.rev ≤ r
    · have h' : decide ((x.rev : Int) ≤ (r : Int)) = true := by simpa using h
      rw [List.takeWhile_cons]
      simp only [h', if_true, List.length_cons]
      constructor
      · intro e y hy
        rcases List.mem_cons.1 hy with rfl | hy
        · exact h
        · exact ih.1 (by omega) y hy
      · intro e
        have := ih.2 fun y hy => e y (by simp [hy])
        omega
    · have h' : decide ((x.rev : Int) ≤ (r : Int)) = false := by simpa using h
      rw [List.takeWhile_cons]
      simp only [h', Bool.false_eq_true, if_false, List.length_cons, List.length_nil]
      constructor
      · intro e; cases e
      · intro e; exact absurd (e x (by simp)) h
theorem okP_iff : ∀ (ps : List (ByteArray × Ver)) (s : St) (t : List Nat) (last : ByteArray) (done : List (ByteArray × Ver)), (∀ k, s.vers k = versOf done k) → (∀ r, r ∈ t ↔ ∃ x ∈ done, x.2.rev = r) → (∀ x ∈ done, x.1.data.toList ≤ last.data.toList) → ((∃ x ∈ done, x.1 = last) ∨ last.data.toList = []) →
    (OkP s t last ps ↔ (∀ x ∈ ps, mayV s.rev x = true) ∧ ps.Pairwise Rel ∧ ∀ d ∈ done, ∀ x ∈ ps, Rel d x)
  | [], s, t, last, done, _, _, _, _ => by simp [OkP]
  | x :: ps, s, t, last, done, hv, ht, hd, hl => by
    have hx : OkV s t last x ↔ mayV s.rev x = true ∧ ∀ d ∈ done, Rel d x := by
      unfold OkV
      rw [upToN_all, hv]
      constructor
      · rintro ⟨h1, h2, h3, h4⟩
        refine ⟨h4, fun d hd' => ⟨List.le_trans (hd d hd') h2, fun e => h1 ((ht _).2 ⟨d, hd', e⟩), fun e => ?_⟩⟩
        have h5 := h3 d.2 (mem_versOf.2 (by rw [← e]; exact hd'))
        have h6 : d.2.rev ≠ x.2.rev := fun e' => h1 ((ht _).2 ⟨d, hd', e'⟩)
        omega
      · rintro ⟨h1, h2⟩
        refine ⟨fun h => ?_, ?_, fun v hv' => ?_, h1⟩
        · obtain ⟨d, hd', e⟩ := (ht _).1 h
          exact (h2 d hd').2.1 e
        · rcases hl with ⟨d, hd', rfl⟩ | hl
          · exact (h2 d hd').1
          · rw [hl]; exact nil_le _
        · have := (h2 _ (mem_versOf.1 hv')).2.2 rfl
          simp only at this
          omega
    have ih := okP_iff ps (s.put1 x) (x.2.rev :: t) x.1 (done ++ [x]) (fun k => by
        rw [versOf_app, versOf_one]
        show (if k = x.1 then s.vers x.1 ++ [x.2] else s.vers k) = _
        by_cases e : k = x.1
        · rw [if_pos e, if_pos e, hv, e]
        · rw [if_neg e, if_neg e, hv, List.append_nil]) (fun r => by
        simp only [List.mem_cons, List.mem_append, List.not_mem_nil, or_false, ht]
        constructor
        · rintro (rfl | ⟨y, hy, e⟩)
          · exact ⟨x, .inr rfl, rfl⟩
          · exact ⟨y, .inl hy, e⟩
        · rintro ⟨y, hy | rfl, e⟩
          · exact .inr ⟨y, hy, e⟩
          · exact .inl e.symm)
    constructor
    · rintro ⟨h1, h2⟩
      have h3 := hx.1 h1
      have h4 := (ih (fun y hy => by
        rcases List.mem_append.1 hy with hy | hy
        · exact (h3.2 y hy).1
        · rw [List.mem_singleton.1 hy]; exact List.le_refl _) (.inl ⟨x, by simp, rfl⟩)).1 h2
      refine ⟨fun y hy => ?_, List.pairwise_cons.2 ⟨fun y hy => h4.2.2 x (by simp) y hy, h4.2.1⟩, fun d hd' y hy => ?_⟩
      · rcases List.mem_cons.1 hy with rfl | hy
        · exact h3.1
        · exact h4.1 y hy
      · rcases List.mem_cons.1 hy with rfl | hy
        · exact h3.2 d hd'
        · exact h4.2.2 d (by simp [hd']) y hy
    · rintro ⟨h1, h2, h3⟩
      obtain ⟨h4, h5⟩ := List.pairwise_cons.1 h2
      have h6 : ∀ d ∈ done, Rel d x := fun d hd' => h3 d hd' x (by simp)
      refine ⟨hx.2 ⟨h1 x (by simp), h6⟩, (ih (fun y hy => by
        rcases List.mem_append.1 hy with hy | hy
        · exact (h6 y hy).1
        · rw [List.mem_singleton.1 hy]; exact List.le_refl _) (.inl ⟨x, by simp, rfl⟩)).2 ⟨fun y hy => h1 y (by simp [hy]), h5, fun d hd' y hy => ?_⟩⟩
      rcases List.mem_append.1 hd' with hd' | hd'
      · exact h3 d hd' y (by simp [hy])
      · rw [List.mem_singleton.1 hd']; exact h4 y hy
def sesR (l : List UInt8) (b : Bool) : (Nat × Res) × List UInt8 × Bool :=
  let q := numL l b
  let f := flagR q.2.1 q.2.2
  let r := numL f.2.1 f.2.2
  ((q.1, ⟨f.1, r.1, false⟩), r.2)
def OkS (r : Nat) (x : Nat × Res) : Prop := (x.1 = 0 → x.2 = ⟨false, 0, false⟩) ∧ x.1 ≤ 1000000 ∧ x.2.rev ≤ r
/-- A session as it may be in a store. -/
def SesOk (r : Nat) (x : Nat × Res) : Prop := OkS r x ∧ 0 ≤ x.2.rev ∧ x.2.stale = false
theorem ses_fwd (r : Nat) (x : Nat × Res) (l : List UInt8) (h : SesOk r x) (hr : r ≤ 1000000) : sesR (sesL x ++ l) false = (x, l, false) := by
  obtain ⟨q, ok, rev, st⟩ := x
  obtain ⟨⟨h1, h2, h3⟩, h4, h5⟩ := h
  simp only at h2 h3 h4 h5
  subst h5
  have e : sesL (q, ⟨ok, rev, false⟩) ++ l = be 3 q ++ (flagL ok ++ (be 3 rev.toNat ++ l)) := by simp only [sesL, List.append_assoc]
  rw [e]
  unfold sesR
  rw [numL_fwd _ _ (by omega)]
  simp only
  rw [flag_fwd]
  simp only
  rw [numL_fwd _ _ (by omega), Int.toNat_of_nonneg h4]
theorem ses_back (l : List UInt8) (b : Bool) (h : (sesR l b).2.2 = false) : b = false ∧ ∃ x l', 0 ≤ x.2.rev ∧ x.2.stale = false ∧ l = sesL x ++ l' ∧ sesR l b = (x, l', false) := by
  unfold sesR at h ⊢
  simp only at h ⊢
  generalize hQ : numL l b = Q at h ⊢
  generalize hF : flagR Q.2.1 Q.2.2 = F at h ⊢
  generalize hR : numL F.2.1 F.2.2 = R at h ⊢
  obtain ⟨h3, r, l3, hr, e3, q3⟩ := numL_back F.2.1 F.2.2 (by rw [hR]; exact h)
  obtain ⟨h2, g, l2, e2, q2⟩ := flag_back Q.2.1 Q.2.2 (by rw [hF]; exact h3)
  obtain ⟨h1, q, l1, hq, e1, q1⟩ := numL_back l b (by rw [hQ]; exact h2)
  rw [hR] at q3; rw [hF] at q2; rw [hQ] at q1
  subst q1 q2 q3
  simp only at e2 e3
  refine ⟨h1, (q, ⟨g, r, false⟩), l3, by simp, rfl, ?_, rfl⟩
  simp only [sesL, List.append_assoc, Int.toNat_natCast]
  rw [← e3, ← e2, ← e1]
theorem sesR_plain (l : List UInt8) (b : Bool) : 0 ≤ (sesR l b).1.2.rev ∧ (sesR l b).1.2.stale = false := ⟨by unfold sesR; simp, rfl⟩
open Classical in
noncomputable def takeS : Nat → Nat → St → List UInt8 → Bool → Option (St × List UInt8 × Bool)
  | 0, _, s, l, b => some (s, l, b)
  | n + 1, k, s, l, b => if OkS s.rev (sesR l b).1 then takeS n (k + 1) (s.setSs k (sesR l b).1) (sesR l b).2.1 (sesR l b).2.2 else none
theorem takeS_yes {n k : Nat} {s : St} {l : List UInt8} {b : Bool} (h : OkS s.rev (sesR l b).1) : takeS (n + 1) k s l b = takeS n (k + 1) (s.setSs k (sesR l b).1) (sesR l b).2.1 (sesR l b).2.2 := by
  rw [takeS]; exact if_pos h
theorem takeS_no {n k : Nat} {s : St} {l : List UInt8} {b : Bool} (h : ¬ OkS s.rev (sesR l b).1) : takeS (n + 1) k s l b = none := by
  rw [takeS]; exact if_neg h
theorem setSs_setSs (s : St) (k : Nat) (x y : Nat × Res) : (s.setSs k x).rev = s.rev ∧ (s.setSs k x).floor = s.floor ∧ (s.setSs k x).vers = s.vers ∧ (s.setSs k x).ss = s.ss.set k x := ⟨rfl, rfl, rfl, rfl⟩
theorem set_mid (a c : List (Nat × Res)) (x y : Nat × Res) : (a ++ y :: c).set a.length x = (a ++ [x]) ++ c := by
  induction a with
  | nil => rfl
  | cons z a ih => simp [ih]
theorem takeS_back : ∀ (n : Nat) (s : St) (a c : List (Nat × Res)) (l : List UInt8) (b : Bool) (s' : St) (l' : List UInt8), s.ss = a ++ c → c.length = n → takeS n a.length s l b = some (s', l', false) → b = false ∧ ∃ xs, xs.length = n ∧ (∀ x ∈ xs, SesOk s.rev x) ∧ l = xs.flatMap sesL ++ l' ∧ s' = { s with ss := a ++ xs }
  | 0, s, a, c, l, b, s', l', hs, hc, h => by
    rw [takeS] at h
    injection h with h; injection h with h1 h2; injection h2 with h2 h3
    have : c = [] := by cases c; · rfl
                        · cases hc
    subst this
    refine ⟨h3, [], rfl, by simp, h2, ?_⟩
    rw [← h1, ← hs]
  | n + 1, s, a, c, l, b, s', l', hs, hc, h => by
    by_cases hok : OkS s.rev (sesR l b).1
    · rw [takeS_yes hok] at h
      cases c with
      | nil => cases hc
      | cons y c =>
        have hl : (a ++ [(sesR l b).1]).length = a.length + 1 := by simp
        obtain ⟨hb, xs, hx, hxs, hl2, hs2⟩ := takeS_back n (s.setSs a.length (sesR l b).1) (a ++ [(sesR l b).1]) c _ _ _ _ (by
          show s.ss.set _ _ = _
          rw [hs, set_mid]) (by simpa using hc) (by rw [hl]; exact h)
        obtain ⟨hb2, x, l2, h0, h1, e, q⟩ := ses_back l b hb
        rw [q] at hl2 hs2 hok
        refine ⟨hb2, x :: xs, by simp [hx], fun z hz => ?_, ?_, ?_⟩
        · rcases List.mem_cons.1 hz with rfl | hz
          · exact ⟨hok, h0, h1⟩
          · exact hxs z hz
        · rw [List.flatMap_cons, List.append_assoc, ← hl2, ← e]
        · rw [hs2]; simp [St.setSs]
    · rw [takeS_no hok] at h; cases h
theorem takeS_fwd : ∀ (xs : List (Nat × Res)) (s : St) (a c : List (Nat × Res)) (l : List UInt8), s.ss = a ++ c → c.length = xs.length → (∀ x ∈ xs, SesOk s.rev x) → s.rev ≤ 1000000 → takeS xs.length a.length s (xs.flatMap sesL ++ l) false = some ({ s with ss := a ++ xs }, l, false)
  | [], s, a, c, l, hs, hc, _, _ => by
    rw [List.length_nil, takeS]
    have : c = [] := by cases c; · rfl
                        · cases hc
    subst this
    rw [← hs]; rfl
  | x :: xs, s, a, c, l, hs, hc, hx, hr => by
    have q : sesR ((x :: xs).flatMap sesL ++ l) false = (x, xs.flatMap sesL ++ l, false) := by
      rw [List.flatMap_cons, List.append_assoc]
      exact ses_fwd s.rev x _ (hx x (by simp)) hr
    rw [List.length_cons, takeS_yes (by rw [q]; exact (hx x (by simp)).1), q]
    cases c with
    | nil => cases hc
    | cons y c =>
      have h := takeS_fwd xs (s.setSs a.length x) (a ++ [x]) c l (by
        show s.ss.set _ _ = _
        rw [hs, set_mid]) (by simpa using hc) (fun z hz => hx z (by simp [hz])) hr
      rw [List.length_append, List.length_singleton] at h
      rw [h]; simp [St.setSs]
def St.start (r f : Nat) : St := ⟨r, f, fun _ => [], List.replicate 8 (0, ⟨false, 0, false⟩)⟩
open Classical in
/-- What Load makes of bytes. -/
noncomputable def loadS (t : List UInt8) : Option St :=
  let r := numL t false
  let f := numL r.2.1 r.2.2
  if r.1 ≤ 1000000 ∧ f.1 ≤ r.1 then
    let n := numL f.2.1 f.2.2
    match takeV n.1 (St.start r.1 f.1) [] ⟨#[]⟩ n.2.1 n.2.2 with
    | none => none
    | some (s1, l1, b1) => match takeS 8 0 s1 l1 b1 with
      | none => none
      | some (s2, l2, b2) => if b2 = false ∧ l2 = [] then some s2 else none
  else none
structure Wf (s : St) (ps : List (ByteArray × Ver)) : Prop where
  rev : s.rev ≤ 1000000
  floor : s.floor ≤ s.rev
  may : ∀ x ∈ ps, mayV s.rev x = true
  rel : ps.Pairwise Rel
  vers : ∀ k, s.vers k = versOf ps k
  ss : s.ss.length = 8
  ses : ∀ x ∈ s.ss, SesOk s.rev x
def wfL (s : St) (ps : List (ByteArray × Ver)) : List UInt8 := be 3 s.rev ++ be 3 s.floor ++ be 3 ps.length ++ ps.flatMap pairL ++ s.ss.flatMap sesL
theorem takeV_rest : ∀ (n : Nat) (s : St) (t : List Nat) (last : ByteArray) (l : List UInt8) (b : Bool) (r : St × List UInt8 × Bool), takeV n s t last l b = some r → r.1.rev = s.rev ∧ r.1.floor = s.floor ∧ r.1.ss = s.ss
  | 0, s, t, last, l, b, r, h => by
    rw [takeV] at h
    injection h with h
    subst h
    exact ⟨rfl, rfl, rfl⟩
  | n + 1, s, t, last, l, b, r, h => by
    by_cases hok : OkV s t last (verR l b).1
    · rw [takeV_yes hok] at h
      have := takeV_rest n _ _ _ _ _ _ h
      exact this
    · rw [takeV_no hok] at h; cases h
theorem start_okP (r f : Nat) (ps : List (ByteArray × Ver)) : OkP (St.start r f) [] ⟨#[]⟩ ps ↔ (∀ x ∈ ps, mayV r x = true) ∧ ps.Pairwise Rel := by
  have h := okP_iff ps (St.start r f) [] ⟨#[]⟩ [] (fun k => rfl) (by simp) (by simp) (.inr rfl)
  constructor
  · intro h1; have h2 := h.1 h1; exact ⟨h2.1, h2.2.1⟩
  · rintro ⟨h1, h2⟩; exact h.2 ⟨h1, h2, by simp⟩
theorem load_back (l : List UInt8) (s : St) (h : loadS l = some s) : ∃ ps, Wf s ps ∧ l = wfL s ps := by
  unfold loadS at h
  simp only at h
  generalize hR : numL l false = R at h
  generalize hF : numL R.2.1 R.2.2 = F at h
  generalize hN : numL F.2.1 F.2.2 = N at h
  split at h
  · next hrf =>
    split at h
    · cases h
    · next s1 l1 b1 hv =>
      split at h
      · cases h
      · next s2 l2 b2 hs =>
        split at h
        · next hd =>
          obtain ⟨rfl, rfl⟩ := hd
          injection h with h
          subst h
          have e8 := takeV_rest _ _ _ _ _ _ _ hv
          simp only at e8
          obtain ⟨hb1, xs, hx, hxs, hl1, hs1⟩ := takeS_back 8 s1 [] s1.ss l1 b1 _ _ rfl (by rw [e8.2.2]; rfl) hs
          subst hb1
          obtain ⟨hb2, ps, hp, hok, hl2, hs2⟩ := takeV_back _ _ _ _ _ _ _ _ hv
          obtain ⟨hb3, n3, l3, hn3, e3, q3⟩ := numL_back F.2.1 F.2.2 (by rw [hN]; exact hb2)
          obtain ⟨hb4, n4, l4, hn4, e4, q4⟩ := numL_back R.2.1 R.2.2 (by rw [hF]; exact hb3)
          obtain ⟨_, n5, l5, hn5, e5, q5⟩ := numL_back l false (by rw [hR]; exact hb4)
          rw [hN] at q3; rw [hF] at q4; rw [hR] at q5
          subst q3 q4 q5
          simp only at *
          have hok' := (start_okP _ _ _).1 hok
          have hr := putAll_rest ps (St.start n5 n4)
          have hv' := putAll_vers ps (St.start n5 n4) [] (fun k => rfl)
          rw [List.nil_append] at hs1 hv'
          have r1 : s2.rev = n5 := by rw [hs1]; exact e8.1
          have r2 : s2.floor = n4 := by rw [hs1]; exact e8.2.1
          have r3 : s2.ss = xs := by rw [hs1]
          refine ⟨ps, ⟨by omega, by omega, fun x hx => by rw [r1]; exact hok'.1 x hx, hok'.2, fun k => ?_, by rw [r3, hx], fun x hx => ?_⟩, ?_⟩
          · rw [hs1]
            show s1.vers k = _
            rw [hs2]
            exact hv' k
          · rw [r3] at hx
            have := hxs x hx
            rw [e8.1] at this
            rw [r1]; exact this
          · unfold wfL
            rw [r1, r2, r3, hp]
            simp only [List.append_assoc]
            rw [List.append_nil] at hl1
            rw [← hl1, ← hl2, ← e3, ← e4, ← e5]
        · cases h
  · cases h
theorem load_fwd (s : St) (ps : List (ByteArray × Ver)) (h : Wf s ps) (hp : ps.length ≤ 1000000) (x : List UInt8) : loadS (wfL s ps ++ x) = if x = [] then some s else none := by
  have e : wfL s ps ++ x = be 3 s.rev ++ (be 3 s.floor ++ (be 3 ps.length ++ (ps.flatMap pairL ++ (s.ss.flatMap sesL ++ x)))) := by simp only [wfL, List.append_assoc]
  have h1 := h.rev
  have h2 := h.floor
  unfold loadS
  rw [e, numL_fwd _ _ (by omega)]
  simp only
  rw [numL_fwd _ _ (by omega)]
  simp only
  rw [numL_fwd _ _ (by omega)]
  simp only
  rw [if_pos ⟨h1, h2⟩, takeV_fwd ps _ _ _ _ ((start_okP _ _ _).2 ⟨h.may, h.rel⟩) h1]
  simp only
  have hr := putAll_rest ps (St.start s.rev s.floor)
  have hv := putAll_vers ps (St.start s.rev s.floor) [] (fun k => rfl)
  have hS := takeS_fwd s.ss (putAll (St.start s.rev s.floor) ps) [] (List.replicate 8 (0, ⟨false, 0, false⟩)) x (by rw [hr.2.2]; rfl) (by rw [h.ss]; rfl) (fun z hz => by rw [hr.1]; exact h.ses z hz) (by rw [hr.1]; exact h1)
  rw [h.ss] at hS
  rw [show (0 : Nat) = ([] : List (Nat × Res)).length from rfl, hS]
  simp only [List.nil_append, true_and]
  by_cases hx : x = []
  · rw [if_pos hx, if_pos hx]
    congr 1
    cases s with
    | mk r f v ss =>
      simp only at *
      rw [St.mk.injEq]
      refine ⟨hr.1, hr.2.1, ?_, rfl⟩
      funext k
      exact (hv k).trans (show versOf ([] ++ ps) k = v k from (h.vers k).symm)
  · rw [if_neg hx, if_neg hx]
/-- What a store must be to be saved and loaded again. -/
structure Sav (s : St) : Prop where
  bnd : Bnd s
  key : ∀ k, s.vers k ≠ [] → 1 ≤ k.size
  gone : ∀ k, ∀ v ∈ s.vers k, v.gone = true → v.val.size = 0
  dis : ∀ k k' v v', k ≠ k' → v ∈ s.vers k → v' ∈ s.vers k' → v.rev ≠ v'.rev
  ses : ∀ x ∈ s.ss, x.2.stale = false ∧ (x.1 = 0 → x.2 = ⟨false, 0, false⟩)
def pairsOf (s : St) (ks : List ByteArray) : List (ByteArray × Ver) := ks.flatMap fun k => (s.vers k).map fun v => (k, v)
theorem pairs_mem {s : St} {ks : List ByteArray} (hk : KeysIn s ks) (x : ByteArray × Ver) : x ∈ pairsOf s ks ↔ x.2 ∈ s.vers x.1 := by
  unfold pairsOf
  simp only [List.mem_flatMap, List.mem_map]
  constructor
  · rintro ⟨k, _, v, hv, rfl⟩; exact hv
  · intro h; exact ⟨x.1, (hk.2 _).2 (fun e => by rw [e] at h; cases h), x.2, h, rfl⟩
theorem pairs_len (s : St) (ks : List ByteArray) : (pairsOf s ks).length = totN s ks := by
  unfold pairsOf totN
  rw [List.length_flatMap]
  congr 1
  exact List.map_congr_left fun k _ => by rw [List.length_map]
theorem pairs_bytes (s : St) (ks : List ByteArray) : (pairsOf s ks).flatMap pairL = versL s ks := by
  unfold pairsOf versL
  rw [List.flatMap_assoc]
  congr 1
  funext k
  rw [List.flatMap_map]; rfl
theorem pairs_rel {s : St} {ks : List ByteArray} (h : Sav s) (hk : KeysIn s ks) : (pairsOf s ks).Pairwise Rel := by
  unfold pairsOf
  rw [List.pairwise_flatMap]
  refine ⟨fun k _ => ?_, hk.1.imp fun {a b} hab x hx y hy => ?_⟩
  · rw [List.pairwise_map]
    exact (h.bnd.good.asc k).imp fun {a b} hab => ⟨List.le_refl _, by simp only; omega, fun _ => hab⟩
  · obtain ⟨v, hv, rfl⟩ := List.mem_map.1 hx
    obtain ⟨v', hv', rfl⟩ := List.mem_map.1 hy
    have hne : a ≠ b := fun e => by subst e; exact absurd hab (List.lt_irrefl _)
    exact ⟨List.le_of_lt hab, h.dis a b v v' hne hv hv', fun e => absurd e hne⟩
open Classical in
theorem filter_flat (f : ByteArray → List Ver) (k : ByteArray) : ∀ ks : List ByteArray, ks.Nodup → versOf (ks.flatMap fun k => (f k).map fun v => (k, v)) k = if k ∈ ks then f k else []
  | [], _ => by simp [versOf]
  | x :: ks, hn => by
    obtain ⟨h1, h2⟩ := List.nodup_cons.1 hn
    rw [List.flatMap_cons, versOf_app, filter_flat f k ks h2]
    have e : versOf ((f x).map fun v => (x, v)) k = if k = x then f x else [] := by
      unfold versOf
      by_cases hx : k = x
      · subst hx
        rw [if_pos rfl, List.filter_eq_self.2 (by simp), List.map_map]
        exact List.map_id _
      · rw [if_neg hx, List.filter_eq_nil_iff.2 (by simp; exact fun _ _ e => hx e.symm)]; rfl
    rw [e]
    by_cases hx : k = x
    · subst hx
      rw [if_pos rfl, if_neg h1, if_pos (by simp), List.append_nil]
    · rw [if_neg hx, List.nil_append]
      simp [hx]
theorem sav_wf {s : St} {ks : List ByteArray} (h : Sav s) (hk : KeysIn s ks) : Wf s (pairsOf s ks) := by
  refine ⟨h.bnd.good.rev, h.bnd.good.floor, fun x hx => ?_, pairs_rel h hk, fun k => ?_, h.bnd.good.ss, fun x hx => ?_⟩
  · have hv := (pairs_mem hk x).1 hx
    have hne : s.vers x.1 ≠ [] := fun e => by rw [e] at hv; cases hv
    rw [mayV_iff]
    exact ⟨h.gone _ _ hv, ⟨h.key _ hne, h.bnd.key _ hne⟩, h.bnd.val _ _ hv, (h.bnd.good.bd _ _ hv).1, (h.bnd.good.bd _ _ hv).2⟩
  · rw [pairsOf, filter_flat _ _ _ (keys_nodup (s := s) hk.1)]
    by_cases hm : k ∈ ks
    · rw [if_pos hm]
    · rw [if_neg hm]
      by_cases hv : s.vers k = []
      · exact hv
      · exact absurd ((hk.2 k).2 hv) hm
  · have h1 := h.ses x hx
    have h2 := h.bnd.res x hx
    exact ⟨⟨h1.2, h.bnd.seq x hx, h2.2⟩, h2.1, h1.1⟩
theorem pigeon : ∀ (n : Nat) (l : List Nat), l.Nodup → (∀ x ∈ l, 1 ≤ x ∧ x ≤ n) → l.length ≤ n
  | 0, l, _, h => by
    cases l with
    | nil => simp
    | cons x xs => have := h x (by simp); omega
  | n + 1, l, hn, h => by
    have h1 := pigeon n (l.erase (n + 1)) (hn.erase _) (fun x hx => by
      have h2 := h x (List.mem_of_mem_erase hx)
      have h3 : x ≠ n + 1 := fun e => by subst e; exact absurd hx (List.Nodup.not_mem_erase hn)
      omega)
    have h2 : l.length ≤ (l.erase (n + 1)).length + 1 := by rw [List.length_erase]; split <;> omega
    omega
theorem pair_all {α : Type} (R P : α → α → Prop) : ∀ (l : List α), l.Pairwise R → (∀ a b, R a b → P a b ∧ P b a) → ∀ a ∈ l, ∀ b ∈ l, a ≠ b → P a b
  | [], _, _, a, ha, _, _, _ => by cases ha
  | x :: xs, h, hP, a, ha, b, hb, hab => by
    obtain ⟨h1, h2⟩ := List.pairwise_cons.1 h
    rcases List.mem_cons.1 ha with ea | ha
    · rcases List.mem_cons.1 hb with eb | hb
      · exact absurd (ea.trans eb.symm) hab
      · rw [ea]; exact (hP _ _ (h1 b hb)).1
    · rcases List.mem_cons.1 hb with eb | hb
      · rw [eb]; exact (hP _ _ (h1 a ha)).2
      · exact pair_all R P xs h2 hP a ha b hb hab
theorem wf_len {s : St} {ps : List (ByteArray × Ver)} (h : Wf s ps) : ps.length ≤ s.rev := by
  have h1 := pigeon s.rev (ps.map fun x => x.2.rev) (by
    unfold List.Nodup
    rw [List.pairwise_map]
    exact h.rel.imp fun {a b} hab => hab.2.1) (fun r hr => by
    obtain ⟨x, hx, rfl⟩ := List.mem_map.1 hr
    have := (mayV_iff _ _).1 (h.may x hx)
    exact this.2.2.2)
  rw [List.length_map] at h1; exact h1
theorem sum_filter (ps : List (ByteArray × Ver)) : ∀ ks : List ByteArray, ks.Nodup → (ks.map fun k => (versOf ps k).length).sum ≤ ps.length := by
  intro ks hn
  induction ps with
  | nil =>
    have : ∀ ks : List ByteArray, (ks.map fun k => (versOf [] k).length).sum = 0 := fun ks => by
      induction ks with
      | nil => rfl
      | cons k ks ih => rw [List.map_cons, List.sum_cons, ih]; rfl
    rw [this]; exact Nat.zero_le _
  | cons x ps ih =>
    have h := sum_one (ks := ks) hn (f := fun k => (versOf (x :: ps) k).length) (g := fun k => (versOf ps k).length) (key := x.1) (fun k hk => by
      show (versOf ([x] ++ ps) k).length = _
      rw [versOf_app, versOf_one, if_neg hk, List.nil_append]) (by
      show (versOf ([x] ++ ps) x.1).length = _
      rw [versOf_app, versOf_one, if_pos rfl, List.length_append]; simp; omega)
    rw [List.length_cons]
    omega
theorem wf_sav {s : St} {ps : List (ByteArray × Ver)} (h : Wf s ps) : Sav s := by
  have hm : ∀ {k v}, v ∈ s.vers k → (k, v) ∈ ps := fun {k v} hv => mem_versOf.1 (by rw [← h.vers]; exact hv)
  have hmay : ∀ {k v}, v ∈ s.vers k → _ := fun {k v} hv => (mayV_iff _ _).1 (h.may _ (hm hv))
  have hsome : ∀ {k}, s.vers k ≠ [] → ∃ v, v ∈ s.vers k := fun {k} hk => List.exists_mem_of_ne_nil _ hk
  refine ⟨⟨⟨h.rev, h.floor, fun k => ?_, fun k v hv => (hmay hv).2.2.2, h.ss⟩, fun k hk => ?_, fun k v hv => (hmay hv).2.2.1, fun ks hks => ?_, fun x hx => (h.ses x hx).1.2.1, fun x hx => ⟨(h.ses x hx).2.1, (h.ses x hx).1.2.2⟩⟩, fun k hk => ?_, fun k v hv hg => (hmay hv).1 hg, fun k k' v v' hkk hv hv' e => ?_, fun x hx => ⟨(h.ses x hx).2.2, (h.ses x hx).1.1⟩⟩
  · rw [h.vers k]
    unfold versOf Asc
    rw [List.pairwise_map]
    have h1 : (ps.filter fun x => decide (x.1 = k)).Pairwise Rel := h.rel.filter _
    refine (List.Pairwise.and_mem.1 h1).imp ?_
    rintro a b ⟨ha, hb, hr⟩
    have ea := (List.mem_filter.1 ha).2
    have eb := (List.mem_filter.1 hb).2
    simp only [decide_eq_true_eq] at ea eb
    exact hr.2.2 (ea.trans eb.symm)
  · obtain ⟨v, hv⟩ := hsome hk
    exact (hmay hv).2.1.2
  · have h1 := sum_filter ps ks hks
    have h2 := wf_len h
    have e : (ks.map fun k => (s.vers k).length) = ks.map fun k => (versOf ps k).length := List.map_congr_left fun k _ => by rw [h.vers]
    rw [e]; omega
  · obtain ⟨v, hv⟩ := hsome hk
    exact (hmay hv).2.1.1
  · have h1 := hm hv
    have h2 := hm hv'
    exact pair_all Rel (fun x y => x.2.rev ≠ y.2.rev) ps h.rel (fun a b hab => ⟨hab.2.1, fun e => hab.2.1 e.symm⟩) _ h1 _ h2 (fun e => hkk (congrArg Prod.fst e)) e
theorem wf_pairs {s : St} {ps : List (ByteArray × Ver)} (h : Wf s ps) {ks : List ByteArray} (hk : KeysIn s ks) : ps = pairsOf s ks := by
  have nd : ∀ l : List (ByteArray × Ver), l.Pairwise Rel → l.Nodup := fun l hl => hl.imp fun {a b} hab e => by subst e; exact hab.2.1 rfl
  have hS := wf_sav h
  have h2 := pairs_rel hS hk
  have hp : ps.Perm (pairsOf s ks) := (List.perm_ext_iff_of_nodup (nd _ h.rel) (nd _ h2)).2 fun x => by
    rw [pairs_mem hk, h.vers]; exact (mem_versOf (v := x.2)).symm
  refine List.Perm.eq_of_pairwise (le := Rel) (fun a b _ _ h1 h2 => ?_) h.rel h2 hp
  have e : a.1 = b.1 := bytes_ext (List.le_antisymm h1.1 h2.1)
  have h3 := h1.2.2 e
  have h4 := h2.2.2 e.symm
  omega
theorem wfL_save {s : St} {ks : List ByteArray} : wfL s (pairsOf s ks) = saveL s ks := by
  unfold wfL saveL
  rw [pairs_len, pairs_bytes]
/-- What Save tells is loaded: as it was, and with nothing behind it. -/
theorem save_load {s : St} {ks : List ByteArray} (h : Sav s) (hk : KeysIn s ks) (x : List UInt8) : loadS (saveL s ks ++ x) = if x = [] then some s else none := by
  have hw := sav_wf h hk
  rw [← wfL_save]
  exact load_fwd s _ hw (Nat.le_trans (wf_len hw) hw.rev) x
/-- What is loaded is what Save tells. -/
theorem load_save {l : List UInt8} {s : St} (h : loadS l = some s) : Sav s ∧ ∀ ks, KeysIn s ks → saveL s ks = l := by
  obtain ⟨ps, hw, hl⟩ := load_back l s h
  refine ⟨wf_sav hw, fun ks hk => ?_⟩
  rw [hl, ← wfL_save, ← wf_pairs hw hk]
/-- One byte less is nothing. -/
theorem save_less {s : St} {ks ks' : List ByteArray} (h : Sav s) (hk : KeysIn s ks) : loadS (saveL s ks).dropLast = none := by
  have hne : saveL s ks ≠ [] := by
    intro e
    have := congrArg List.length e
    simp [saveL, be_length] at this
  cases hl : loadS (saveL s ks).dropLast with
  | none => rfl
  | some s' =>
    exfalso
    obtain ⟨ps, hw, hl2⟩ := load_back _ _ hl
    have e : saveL s ks = wfL s' ps ++ [(saveL s ks).getLast hne] := by rw [← hl2, List.dropLast_concat_getLast]
    have h1 := load_fwd s' ps hw (Nat.le_trans (wf_len hw) hw.rev) [(saveL s ks).getLast hne]
    rw [← e] at h1
    have h2 := save_load h hk []
    rw [List.append_nil, h1] at h2
    simp at h2
end Go.Proofs.Ytcbbnmodjnnbeaa
