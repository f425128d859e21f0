/- Load: the walk of the versions' loop. -/
import Derived.Test.YtcbbnmodjnnbeaaLdTake
import Derived.Test.YtcbbnmodjnnbeaaLook
import Derived.Deep.DeepMust
set_option linter.unusedSimpArgs false
set_option linter.unusedVariables false
namespace Go.Proofs.Ytcbbnmodjnnbeaa
open Go.RowKit
open Go.ChangeShapes Go.WideShapes Go.MapKept
open Go.Maps (Keyed IsMap Tidy)

theorem verR_size (l : List UInt8) (b : Bool) : (verR l b).1.1.size ≤ 255 ∧ (verR l b).1.2.val.size ≤ 255 ∧ (verR l b).1.2.rev < 16777216 := by
  have ht : ∀ (l : List UInt8) (b : Bool), (textL l b).1.length ≤ 255 := fun l b => by
    have h1 := byteL_lt l b
    unfold textL takeL
    split
    · exact Nat.zero_le _
    · rw [List.length_take]; omega
  unfold verR
  simp only [B_size]
  exact ⟨ht _ _, ht _ _, numL_lt _ _⟩
/-- What a look-up in the store's map gives, at any key. -/
theorem look_any {w : World} {p b : Nat} {D : DataW Value} {s : St} (h : StoreAt w p b D s) (key : ByteArray) (hk : key.size ≤ maxLen) : ∃ (ah : Option Addr) (caph : Nat), hdAt D key (.slice ah (s.vers key).length caph) ∧ w.ownL 158 3 (.slice ah (s.vers key).length caph) ((s.vers key).map Ver.cells) ∧ ∀ w' : World, w'.heap[b]? = w.heap[b]? → (Instr.lookup 136 (.map (some b)) (.string key) false).run Try.prog w' = .ok (.slice ah (s.vers key).length caph) w' := by
  obtain ⟨hd, hhd, hho⟩ := h.map.hist key
  obtain ⟨ah, caph, hah⟩ := hho.len
  rw [List.length_map] at hah
  subst hah
  refine ⟨ah, caph, hhd, hho, fun w' hb' => ?_⟩
  have ho : w'.ownsMap Try.prog 9 rawElem b (Maps.size D) D := ownsMap_keep h.map.map hb'
  obtain ⟨v, ps, hrun, hraw⟩ := ho.lookup strKeyed Try.underlying136 (z := nilS) (by kernel_rfl) (zd := .held nilS) (zp := []) rfl (key_of key hk)
  have hv : D.atKey (kl key) (.held nilS) = .held v := by have := (rawElem_inv hraw).1; injection this with this _
  rw [hrun, hdAt_one (hv : hdAt D key v) hhd]
/-- What a look-up in the set of revisions gives. -/
theorem look_set {w : World} {bt : Nat} {T : DataW Value} {t : List Nat} (h : w.ownsMap Try.prog 3 unitElem bt (Maps.size T) T) (ht : ∀ n, Maps.has T (il n) = true ↔ n ∈ t) (n : Nat) (hn : n < 16777216) : ∀ w' : World, w'.heap[bt]? = w.heap[bt]? → (Instr.lookup 213 (.map (some bt)) (.int .i64 n) true).run Try.prog w' = .ok (.tuple #[.agg #[], .bool (decide (n ∈ t))]) w' := by
  intro w' hb'
  have ho := ownsMap_keep h hb'
  obtain ⟨v, ps, hrun, hraw⟩ := ho.look_ok intKeyed Try.underlying213 (z := .agg #[]) (by kernel_rfl) (zd := .agg []) (zp := []) unitElem_mk (key_int n (by omega))
  obtain ⟨rfl, _⟩ := unitElem_inv hraw
  have hb : Maps.has T (il n) = decide (n ∈ t) := by rw [Bool.eq_iff_iff, ht, decide_eq_true_eq]
  rw [hrun, hb]
theorem step_no {res : Option (St × List UInt8 × Bool)} {n k : Nat} {s : St} {t : List Nat} {last : ByteArray} {l : List UInt8} {b : Bool} {x : ByteArray × Ver} {tt : List UInt8 × Bool} (h : res = takeV (n - k) s t last l b) (hk : k < n) (hx : (x, tt) = verR l b) (hno : ¬ OkV s t last x) : res = none := by
  rw [h, show n - k = (n - (k + 1)) + 1 by omega, takeV_no (by rw [← hx]; exact hno)]
theorem step_yes {res : Option (St × List UInt8 × Bool)} {n k : Nat} {s : St} {t : List Nat} {last : ByteArray} {l : List UInt8} {b : Bool} {x : ByteArray × Ver} {tt : List UInt8 × Bool} (h : res = takeV (n - k) s t last l b) (hk : k < n) (hx : (x, tt) = verR l b) (hok : OkV s t last x) : res = takeV (n - (k + 1)) (s.put1 x) (x.2.rev :: t) x.1 tt.1 tt.2 := by
  rw [h, show n - k = (n - (k + 1)) + 1 by omega, takeV_yes (by rw [← hx]; exact hok), ← hx]
set_option maxRecDepth 100000 in
set_option maxHeartbeats 4000000 in
theorem takeVersions (w : World) (p b : Nat) (D : DataW Value) (s : St) (r : Nat) (l : List UInt8) (bb : Bool) (h : StoreAt w p b D s) (hr : RdAt w r l bb) (hl : l.length ≤ maxLen) (hv : ∀ k, s.vers k = []) (hD : Maps.size D = 0) (hne : ¬ footS p b D r)
    (hmayc : ∀ (w : World) (p r : Nat) (x : ByteArray × Ver), w.cell? ⟨p, 0, none⟩ = some (.int .i64 r) → p < w.heap.size → (∀ o, w.frozen? ⟨p, o, none⟩ = false) → Calls Try.prog 126 #[.pointer (some ⟨p, 0, none⟩), .string x.1, .agg #[.int .i64 x.2.rev, .string x.2.val, .bool x.2.gone]] w fun e w' => e = .returned (.bool (mayV r x)) ∧ Below w.heap.size w w') :
    Calls Try.prog 80 #[.pointer (some ⟨p, 0, none⟩), .pointer (some ⟨r, 0, none⟩)] w fun e w' => w.turned w' (fun x => footS p b D x ∨ x = r) ∧
      ∃ o, Hid (o = takeV (numL l bb).1 s [] ⟨#[]⟩ (numL l bb).2.1 (numL l bb).2.2) ∧ ((o = none ∧ e = .returned (.bool false)) ∨ ∃ s' l' b' D', o = some (s', l', b') ∧ e = .returned (.bool true) ∧ StoreAt w' p b D' s' ∧ (∀ x, footM b D' x → footM b D x ∨ w.heap.size ≤ x) ∧ RdAt w' r l' b' ∧ l'.length ≤ maxLen ∧ ¬ footS p b D' r) := by
  have H : Hid (StoreAt w p b D s) := h
  have HV : Hid ((∀ k, s.vers k = []) ∧ Maps.size D = 0 ∧ ¬ footS p b D r) := ⟨hv, hD, hne⟩
  have HMC : Hid _ := hmayc
  clear hmayc
  have hmm := @run_makeMap Try.prog
  clear h hv hD hne
  have hrl := hr.lt
  have hr' : RdAt (w.alloc (.map #[] 0)) r l bb := hr.alloc _
  go_enter Try.func80, Try.ntmps80
  go_wp2_with fail
  refine (readerNumber r l bb _ hr' hl).mono ?_
  rintro e w1 ⟨rfl, hr1, hg1⟩
  have hn24 := numL_lt l bb
  have HL1 : Hid ((numL l bb).2.1.length ≤ maxLen) := Nat.le_trans (numL_len l bb) hl
  have HI0 : Hid (TkInv w w1 p b D D s w.heap.size (.map []) [] r (numL l bb).2.1 (numL l bb).2.2) := by
    have h0 : TkInv w (w.alloc (.map #[] 0)) p b D D s w.heap.size (.map []) [] r l bb := by
      have hS : StoreAt (w.alloc (.map #[] 0)) p b D s := H.out.grown (by repeat (first | exact Below.refl _ _ | assumption | with_reducible refine below_drewN ?_ _ | refine Gr.ext ?_ _ | refine Gr.alloc ?_ _ | refine Gr.drew ?_ | (refine Gr.set ?_ (by first | (simp; done) | (simp; omega)) _)))
      refine ⟨hS, ownsMap_tight (World.ownsMap_made w Try.prog 3 unitElem), Nat.le_refl _, fun n => by simp [Maps.has], hr', fun hf => by have := H.out.foot_lt hf; omega, HV.out.2.2, by omega, List.nodup_nil, (fun n hn => by cases hn), fun k v hv => (by rw [HV.out.1 k] at hv; cases hv), by rw [HV.out.2.1]; exact Nat.zero_le _, fun x hx => .inl hx, Nat.le_refl _, World.turned.of_below (by repeat (first | exact Below.refl _ _ | assumption | with_reducible refine below_drewN ?_ _ | refine Gr.ext ?_ _ | refine Gr.alloc ?_ _ | refine Gr.drew ?_ | (refine Gr.set ?_ (by first | (simp; done) | (simp; omega)) _))) _⟩
    exact h0.rdStep hr1 hg1
  have HT0 : Hid (takeV (numL l bb).1 s [] ⟨#[]⟩ (numL l bb).2.1 (numL l bb).2.2 = takeV ((numL l bb).1 - 0) s [] ⟨#[]⟩ (numL l bb).2.1 (numL l bb).2.2) := rfl
  obtain ⟨N, hN⟩ : ∃ N, numL l bb = N := ⟨_, rfl⟩
  have HN : Hid (numL l bb = N) := hN
  rw [hN] at HI0 HT0 hn24 hr1 HL1 ⊢
  obtain ⟨n, l1, b1⟩ := N
  simp only at HI0 HT0 hn24 hr1 HL1 ⊢
  obtain ⟨res, hres⟩ : ∃ res, takeV n s [] ⟨#[]⟩ l1 b1 = res := ⟨_, rfl⟩
  have HRES : Hid (takeV n s [] ⟨#[]⟩ l1 b1 = res) := hres
  have HRS : Hid (takeV (numL l bb).1 s [] ⟨#[]⟩ (numL l bb).2.1 (numL l bb).2.2 = res) := by show _ = _; rw [HN.out]; exact hres
  obtain ⟨bt, hbt⟩ : ∃ bt, w.heap.size = bt := ⟨_, rfl⟩
  rw [hbt] at HI0 ⊢
  clear hr hl hrl hr' hr1 hg1 hres hbt H HV hmm HT0 hN
  go_wp2_with fail
  go_loopw [6, 16] (fun lv iv wr => ∃ (k : Nat) (last : ByteArray) (D' : DataW Value) (T : DataW Value) (s' : St) (t : List Nat) (l' : List UInt8) (b' : Bool), k ≤ n ∧ iv = .int .i64 k ∧ lv = .string last ∧ Hid (res = takeV (n - k) s' t last l' b') ∧ Hid (TkInv w wr p b D D' s' bt T t r l' b') ∧ Hid (l'.length ≤ maxLen)) (fun _ iv _ => n - (intOf iv).toNat)
  case atStart => exact ⟨0, ⟨#[]⟩, D, .map [], s, [], l1, b1, Nat.zero_le _, rfl, rfl, HRES.out.symm, HI0, HL1⟩
  case round =>
    clear HI0 HL1
    obtain ⟨k, last, D', T, s', t, l', b', hk, rfl, rfl, HT, HI, HL⟩ := hrel
    by_cases hlt : k < n
    · have hk1 : (k : Int) < n := by omega
      go_wp2_with fail
      refine (takeVersion r l' b' _ HI.out.rd HL.out).mono ?_
      rintro e w2 ⟨x, tt, HX, HL2, rfl, y, hw2⟩
      have hr2 : RdAt w2 r tt.1 tt.2 := by rw [hw2]; exact (HI.out.rd.put _ _).ext y
      have hg2 : wr.grownBy w2 (some r) := by rw [hw2]; exact gb_ext (gb_put (grownBy_refl _ _) _ _) y
      have HI2 : Hid (TkInv w w2 p b D D' s' bt T t r tt.1 tt.2) := HI.out.rdStep hr2 hg2
      have HXS : Hid (x.1.size ≤ 255 ∧ x.2.val.size ≤ 255 ∧ x.2.rev < 16777216) := by
        have h1 := verR_size l' b'
        rw [← HX.out] at h1
        exact h1
      clear hw2 hr2 hg2 HI
      have HK : Hid (x.1.size ≤ maxLen) := by show _ ≤ _; have := HXS.out.1; unfold maxLen; omega
      obtain ⟨ah, caph, hhd, hho, hlook⟩ := look_any HI2.out.store x.1 HK.out
      have hlookt := look_set HI2.out.set HI2.out.tk x.2.rev HXS.out.2.2
      have hlk1 := fun o => hlook (w2.alloc o) (Below.heap_alloc _ _ _ HI2.out.store.map.map.lt)
      have hlk2 := fun o => hlookt (w2.alloc o) (Below.heap_alloc _ _ _ HI2.out.set.lt)
      obtain ⟨c0, c1, c2, cf⟩ := st_cells HI2.out.store.blk
      have hp2 : p < w2.heap.size := (Array.getElem?_eq_some_iff.1 HI2.out.store.blk).1
      have hrev := HXS.out.2.2
      have HHD : Hid (hdAt D' x.1 (.slice ah (s'.vers x.1).length caph) ∧ w2.ownL 158 3 (.slice ah (s'.vers x.1).length caph) ((s'.vers x.1).map Ver.cells)) := ⟨hhd, hho⟩
      have HUP : Hid (∀ W, Below w2.heap.size w2 W → Calls Try.prog 122 #[.slice ah (s'.vers x.1).length caph, .int .i64 x.2.rev] W fun e w' => e = .returned (.int .i64 (upToN (s'.vers x.1) x.2.rev)) ∧ Below W.heap.size W w') := fun W hW => histUpTo W ah caph _ _ (by have := HI2.out.store.good.len x.1; omega) (hho.keep fun y hy => hW.block y (hho.lt hy)).reads (HI2.out.store.good.asc x.1)
      obtain ⟨mv, hmv⟩ : ∃ mv, mayV s'.rev x = mv := ⟨_, rfl⟩
      have HMV : Hid (mayV s'.rev x = mv) := hmv
      have HMY : Hid (∀ W, Below w2.heap.size w2 W → Calls Try.prog 126 #[.pointer (some ⟨p, 0, none⟩), .string x.1, .agg #[.int .i64 x.2.rev, .string x.2.val, .bool x.2.gone]] W fun e w' => e = .returned (.bool mv) ∧ Below W.heap.size W w') := fun W hW => by
        have h1 := st_cells (HI2.out.store.grown hW).blk
        have h2 := HMC.out W p s'.rev x h1.1 (by have := hW.size; have := (Array.getElem?_eq_some_iff.1 HI2.out.store.blk).1; omega) h1.2.2.2
        rw [HMV.out] at h2
        exact h2
      have HNO : Hid (∀ (W : World) (e : Ending), ¬ OkV s' t last x → Below w2.heap.size w2 W → e = .returned (.bool false) → w.turned W (fun x => footS p b D x ∨ x = r) ∧ ∃ o, Hid (o = takeV (numL l bb).1 s [] ⟨#[]⟩ (numL l bb).2.1 (numL l bb).2.2) ∧ ((o = none ∧ e = .returned (.bool false)) ∨ ∃ s' l' b' D', o = some (s', l', b') ∧ e = .returned (.bool true) ∧ StoreAt W p b D' s' ∧ (∀ x, footM b D' x → footM b D x ∨ w.heap.size ≤ x) ∧ RdAt W r l' b' ∧ l'.length ≤ maxLen ∧ ¬ footS p b D' r)) := fun W e hno hW he =>
        ⟨HI2.out.turned.trans (World.turned.of_below hW (fun _ => False)) (fun _ _ h => h.elim), res, HRS.out.symm, .inl ⟨step_no HT.out hlt HX.out hno, he⟩⟩
      obtain ⟨twb, htwb⟩ : ∃ twb, decide (x.2.rev ∈ t) = twb := ⟨_, rfl⟩
      have HTW : Hid (decide (x.2.rev ∈ t) = twb) := htwb
      rw [htwb] at hlk2
      clear hlook hlookt hhd hho hmv htwb
      by_cases hle : last.data.toList ≤ x.1.data.toList
      · have hbl : Op.bytesLess x.1.toList last.toList = false := by
          cases hb : Op.bytesLess x.1.toList last.toList
          · rfl
          · exact absurd ((bl_data _ _).1 hb) hle
        have HLE : Hid (last.data.toList ≤ x.1.data.toList) := hle
        clear hle
        go_wp2_with fail
        refine (HUP.out _ (by repeat (first | exact Below.refl _ _ | assumption | with_reducible refine below_drewN ?_ _ | refine Gr.ext ?_ _ | refine Gr.alloc ?_ _ | refine Gr.drew ?_ | (refine Gr.set ?_ (by first | (simp; done) | (simp; omega)) _)))).mono ?_
        rintro e w3 ⟨rfl, hb3⟩
        obtain ⟨y3, rfl⟩ := Below.ext hb3
        clear hb3
        by_cases hup : upToN (s'.vers x.1) x.2.rev = (s'.vers x.1).length
        · have hupb : ((upToN (s'.vers x.1) (x.2.rev : Int) : Int) == ((s'.vers x.1).length : Int)) = true := by rw [beq_iff_eq, hup]
          have HUPE : Hid (upToN (s'.vers x.1) x.2.rev = (s'.vers x.1).length) := hup
          clear hup
          cases twb
          · go_wp2_with fail
            refine (HMY.out _ (by repeat (first | exact Below.refl _ _ | assumption | with_reducible refine below_drewN ?_ _ | refine Gr.ext ?_ _ | refine Gr.alloc ?_ _ | refine Gr.drew ?_ | (refine Gr.set ?_ (by first | (simp; done) | (simp; omega)) _)))).mono ?_
            rintro e w4 ⟨rfl, hb4⟩
            obtain ⟨y4, rfl⟩ := Below.ext hb4
            clear hb4
            cases mv
            · go_wp2_with fail
              refine bodyPost_ret (v := .bool false) (by simp [results, Try.results80, go_sem]) rfl (HNO.out _ _ (fun ok => by have := ok.2.2.2; rw [HMV.out] at this; cases this) ?_ rfl); exact (by repeat (first | exact Below.refl _ _ | assumption | with_reducible refine below_drewN ?_ _ | refine Gr.ext ?_ _ | refine Gr.alloc ?_ _ | refine Gr.drew ?_ | (refine Gr.set ?_ (by first | (simp; done) | (simp; omega)) _)))
            · have hok : Hid (OkV s' t last x) := ⟨of_decide_eq_false HTW.out, HLE.out, HUPE.out, HMV.out⟩
              go_wp2_with fail
              refine world_any (F := fun W => Below w2.heap.size w2 W ∧ W.heap[w2.heap.size]? = some (.cells #[.int .i64 x.2.rev, .string x.2.val, .bool x.2.gone] 158)) ⟨(by repeat (first | exact Below.refl _ _ | assumption | with_reducible refine below_drewN ?_ _ | refine Gr.ext ?_ _ | refine Gr.alloc ?_ _ | refine Gr.drew ?_ | (refine Gr.set ?_ (by first | (simp; done) | (simp; omega)) _))), (by repeat (first | with_reducible assumption | (with_reducible refine Hp.new ?_; (first | rfl | (simp [go_sem]; done) | (simp [go_sem]; omega)); done) | with_reducible refine Hp.alloc ?_ _ | with_reducible refine Hp.ext ?_ _ | with_reducible refine Hp.drew ?_ | (with_reducible refine Hp.set ?_ (by simp; omega) _)))⟩ ?_
              rintro w5 ⟨hB5, hv5⟩
              have HI5 : Hid (TkInv w w5 p b D D' s' bt T t r tt.1 tt.2) := HI2.out.grow hB5
              have hho5 : w5.ownL 158 3 (.slice ah (s'.vers x.1).length caph) ((s'.vers x.1).map Ver.cells) := HHD.out.2.keep fun y hy => hB5.block y (HHD.out.2.lt hy)
              have h5s : w2.heap.size < w5.heap.size := (Array.getElem?_eq_some_iff.1 hv5).1
              have HG : Hid (Good (s'.put1 x) ∧ t.length + 1 ≤ s'.rev) := HI5.out.good1 hok.out
              have hp5s : p < w5.heap.size := (Array.getElem?_eq_some_iff.1 HI5.out.store.blk).1
              have hqf : ¬ footM b D' w2.heap.size := fun hf => by have := HI2.out.store.map.foot_lt hf; omega
              have hpf : ¬ footM b D' p := fun hf => by
                rcases hf with e | ⟨k, v, hv, hx⟩
                · exact HI2.out.store.pb e
                · exact (HI2.out.store.map.off k v p hv hx).2 rfl
              have HQF : Hid (¬ footM b D' w2.heap.size ∧ ¬ footM b D' p) := ⟨hqf, hpf⟩
              obtain ⟨q, hq⟩ : ∃ q, w2.heap.size = q := ⟨_, rfl⟩
              rw [hq] at hv5 h5s HQF ⊢
              clear hqf hpf hq hB5 c0 c1 c2 cf hp2 hlk1 hlk2 HI2 HUP HMY HNO hupb hbl hrev hk1
              obtain ⟨c0, c1, c2, cf⟩ := st_cells HI5.out.store.blk
              have v0 : w5.cell? ⟨q, 0, none⟩ = some (.int .i64 (x.2.rev : Int)) := by simp only [World.cell?, hv5]; rfl
              have v1 : w5.cell? ⟨q, 1, none⟩ = some (.string x.2.val) := by simp only [World.cell?, hv5]; rfl
              have v2 : w5.cell? ⟨q, 2, none⟩ = some (.bool x.2.gone) := by simp only [World.cell?, hv5]; rfl
              have hlen : ((s'.vers x.1).map Ver.cells).length = (s'.vers x.1).length := List.length_map _
              have hln : (s'.vers x.1).length ≤ 1000000 := HI5.out.store.good.len x.1
              have hl1 : (s'.vers x.1).length + 1 ≤ maxLen := lay_a hln
              have hl2 : ((s'.vers x.1).length + 1) * 32 ≤ 140737488355328 := lay_b hln
              have hone : ∀ u ∈ (#[.int .i64 (x.2.rev : Int), .string x.2.val, .bool x.2.gone] : Array Value).toList, u.oneCell' = true := by
                intro u hu
                simp only [List.mem_cons, List.not_mem_nil, or_false] at hu
                rcases hu with rfl | rfl | rfl <;> rfl
              have hS5 : w5.cell? ⟨p, 2, none⟩ = some (.map (some b)) ∧ w5.cell? ⟨q, 0, none⟩ = some (.int .i64 (x.2.rev : Int)) ∧ w5.cell? ⟨q, 1, none⟩ = some (.string x.2.val) ∧ w5.cell? ⟨q, 2, none⟩ = some (.bool x.2.gone) := ⟨c2, v0, v1, v2⟩
              have hvf : ∀ o, w5.frozen? ⟨q, o, none⟩ = false := fun o => by simp [World.frozen?, hv5]
              clear hv5 c0 c1 hln
              go_region_held_law (fun w' => w'.cell? ⟨p, 2, none⟩ = some (.map (some b)) ∧ w'.cell? ⟨q, 0, none⟩ = some (.int .i64 (x.2.rev : Int)) ∧ w'.cell? ⟨q, 1, none⟩ = some (.string x.2.val) ∧ w'.cell? ⟨q, 2, none⟩ = some (.bool x.2.gone)) (first | assumption | exact putS_keep hS5 rfl rfl | exact putS_keep hS5 (Below.heap_alloc _ _ _ hp5s) (Below.heap_alloc _ _ _ h5s)) ((refine step_appendL rfl _ _ 160 rfl 158 3 32 _ Try.underlying160 infoVer rfl (by decide) (.slice ah (s'.vers x.1).length caph) _ (s'.vers x.1).length hlen rfl ?_ #[.int .i64 (x.2.rev : Int), .string x.2.val, .bool x.2.gone] _ rfl ?_ rfl hone hl1 hl2 ?_; exact (hho5.alloc _).drew; exact heap_alloc_new w5 _; intro a1 cap1 w6 ho6 hg6 hB6; obtain ⟨w7, D7, hrun, h7, hf7, ht7, hsz7, hk7⟩ := putEnd HI5.out.store HG.out.1 (by have := HG.out.2; have := HI5.out.sz; omega) HK.out (by repeat (first | exact Below.refl _ _ | assumption | with_reducible refine below_drewN ?_ _ | refine Gr.ext ?_ _ | refine Gr.alloc ?_ _ | refine Gr.drew ?_ | (refine Gr.set ?_ (by first | (simp; done) | (simp; omega)) _))) HHD.out.1 ho6 hg6; have hS6 := putS_keep hS5 (hk7 p hp5s HQF.out.2).1 (hk7 q h5s HQF.out.1).1; have hS7 := putS_keep hS5 (hk7 p hp5s HQF.out.2).2 (hk7 q h5s HQF.out.1).2; clear ho6 hg6 hB6))
              all_goals
                obtain ⟨e0, e1, e2, e3⟩ := hS7
                have hq7 : q < w7.heap.size := by have := ht7.size; omega
                have hf7' : ∀ o, w7.frozen? ⟨q, o, none⟩ = false := fun o => by
                  have := (hk7 q h5s HQF.out.1).2
                  simp only [World.frozen?, this]
                  exact hvf o
                have kbt := Chg.keep hf7 ht7 HI5.out.set.lt HI5.out.btf
                have HREV : Hid (x.2.rev ≤ 1000000) := by
                  have h1 := (mayV_iff _ _).1 HMV.out
                  have h2 := HI5.out.store.good.rev
                  show _ ≤ _
                  omega
                have htl : Maps.size T < maxLen := by
                  have h1 := HI5.out.tn; have h2 := HG.out.2; have h3 := HI5.out.store.good.rev
                  unfold maxLen; omega
                obtain ⟨w8, hrun8, hm8, hg8⟩ := (ownsMap_keep HI5.out.set kbt.1).update intKeyed Try.underlying213 htl (key_int x.2.rev (by have := HREV.out; omega)) (val := .agg #[]) (d := .agg []) (ps := []) unitElem_mk
                have HI8 : Hid (TkInv w w8 p b D D7 (s'.put1 x) bt (T.put (il x.2.rev) (.agg [])) (x.2.rev :: t) r tt.1 tt.2) := HI5.out.put hok.out h7 hf7 ht7 hsz7 hm8 hg8
                have HT8 : Hid (res = takeV (n - (k + 1)) (s'.put1 x) (x.2.rev :: t) x.1 tt.1 tt.2) := step_yes HT.out hlt HX.out hok.out
                clear hrun hS6 h7 hf7 ht7 hsz7 hk7 kbt htl hm8 hg8 hS5 hho5 hlen hl1 hl2 hone v0 v1 v2 c2 cf hp5s h5s HI5
                go_wp2_with fail
                exact ⟨⟨k + 1, x.1, D7, _, _, _, tt.1, tt.2, by omega, val_int (by omega), rfl, HT8, HI8, HL2⟩, by simp [intOf]; omega⟩
          · go_wp2_with fail
            refine bodyPost_ret (v := .bool false) (by simp [results, Try.results80, go_sem]) rfl (HNO.out _ _ (fun ok => ok.1 (of_decide_eq_true HTW.out)) ?_ rfl); exact (by repeat (first | exact Below.refl _ _ | assumption | with_reducible refine below_drewN ?_ _ | refine Gr.ext ?_ _ | refine Gr.alloc ?_ _ | refine Gr.drew ?_ | (refine Gr.set ?_ (by first | (simp; done) | (simp; omega)) _)))
        · have hupb : ((upToN (s'.vers x.1) (x.2.rev : Int) : Int) == ((s'.vers x.1).length : Int)) = false := by rw [beq_eq_false_iff_ne]; omega
          have HUPN : Hid (¬ upToN (s'.vers x.1) x.2.rev = (s'.vers x.1).length) := hup
          clear hup
          cases twb
          · go_wp2_with fail
            refine bodyPost_ret (v := .bool false) (by simp [results, Try.results80, go_sem]) rfl (HNO.out _ _ (fun ok => HUPN.out ok.2.2.1) ?_ rfl); exact (by repeat (first | exact Below.refl _ _ | assumption | with_reducible refine below_drewN ?_ _ | refine Gr.ext ?_ _ | refine Gr.alloc ?_ _ | refine Gr.drew ?_ | (refine Gr.set ?_ (by first | (simp; done) | (simp; omega)) _)))
          · go_wp2_with fail
            refine bodyPost_ret (v := .bool false) (by simp [results, Try.results80, go_sem]) rfl (HNO.out _ _ (fun ok => HUPN.out ok.2.2.1) ?_ rfl); exact (by repeat (first | exact Below.refl _ _ | assumption | with_reducible refine below_drewN ?_ _ | refine Gr.ext ?_ _ | refine Gr.alloc ?_ _ | refine Gr.drew ?_ | (refine Gr.set ?_ (by first | (simp; done) | (simp; omega)) _)))
      · have hbl : Op.bytesLess x.1.toList last.toList = true := (bl_data _ _).2 (Classical.not_not.1 fun h => hle (fun h' => h h'))
        have HLN : Hid (¬ last.data.toList ≤ x.1.data.toList) := hle
        clear hle
        cases twb
        · go_wp2_with fail
          refine bodyPost_ret (v := .bool false) (by simp [results, Try.results80, go_sem]) rfl (HNO.out _ _ (fun ok => HLN.out ok.2.1) ?_ rfl); exact (by repeat (first | exact Below.refl _ _ | assumption | with_reducible refine below_drewN ?_ _ | refine Gr.ext ?_ _ | refine Gr.alloc ?_ _ | refine Gr.drew ?_ | (refine Gr.set ?_ (by first | (simp; done) | (simp; omega)) _)))
        · go_wp2_with fail
          refine bodyPost_ret (v := .bool false) (by simp [results, Try.results80, go_sem]) rfl (HNO.out _ _ (fun ok => HLN.out ok.2.1) ?_ rfl); exact (by repeat (first | exact Below.refl _ _ | assumption | with_reducible refine below_drewN ?_ _ | refine Gr.ext ?_ _ | refine Gr.alloc ?_ _ | refine Gr.drew ?_ | (refine Gr.set ?_ (by first | (simp; done) | (simp; omega)) _)))
    · have hkk : k = n := by omega
      subst hkk
      have hk1 : ¬ ((k : Int) < k) := by omega
      have HE : Hid (res = some (s', l', b')) := by have := HT.out; rw [Nat.sub_self, takeV] at this; exact this
      go_wp2_with fail
      exact bodyPost_ret (v := .bool true) (by simp [results, Try.results80, go_sem]) rfl ⟨HI.out.turned, res, HRS.out.symm, .inr ⟨s', l', (by
        cases b'
        · exact .inl ⟨HE.out, rfl, D', HI.out.store, HI.out.new, HI.out.rd, HL.out, HI.out.rf⟩
        · exact .inr ⟨HE.out, rfl, D', HI.out.store, HI.out.new, HI.out.rd, HL.out, HI.out.rf⟩)⟩⟩
end Go.Proofs.Ytcbbnmodjnnbeaa
