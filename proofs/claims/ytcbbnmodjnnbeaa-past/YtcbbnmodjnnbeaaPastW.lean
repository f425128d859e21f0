/- The walk of the law on what was. -/
import Derived.Test.YtcbbnmodjnnbeaaPastQ
import Derived.Test.YtcbbnmodjnnbeaaHoldsW
import Derived.Deep.DeepMust
set_option linter.unusedSimpArgs false
set_option linter.unusedVariables false
namespace Go.Proofs.Ytcbbnmodjnnbeaa
open Go.RowKit

set_option maxRecDepth 100000 in
set_option maxHeartbeats 40000000 in
theorem lawPast (w : World) (a : Option Addr) (cap : Nat) (l : List Cmd) (hr : l ≠ [] → w.reads 7 (.slice a l.length cap) (l.map Cmd.cells)) (hn : l.length * 80 ≤ 140737488355328) :
    Calls Try.prog 7 #[.slice a l.length cap] w fun e w' => e = .returned (.bool true) ∧ Below w.heap.size w w' := by
  go_enter Try.func7, Try.ntmps7
  go_wp2_with fail
  refine (lawHolds _).mono ?_
  rintro e w1 ⟨p, b, D, rfl, hS, hF, hB⟩
  have HS1 : Hid (StoreAt w1 p b D st4) := hS
  have HF1 : Hid (∀ x, footS p b D x → w.heap.size ≤ x) := hF
  have HB1 : Hid (Below w.heap.size w w1) := hB
  have hr1 : l ≠ [] → w1.reads 7 (.slice a l.length cap) (l.map Cmd.cells) := fun hne => readsGrown (hr hne) hB
  clear hS hF hB hr
  go_wp2_with fail
  refine (lawKnown _ a cap l hr1 hn).mono ?_
  rintro e w2 ⟨v4, rfl, hK⟩
  have hmay : ∀ c ∈ l.filter Cmd.may, c.may = true := fun c hc => (List.mem_filter.1 hc).2
  obtain ⟨a4, c4, hv4⟩ : ∃ a c, v4 = .slice a (l.filter Cmd.may).length c := by obtain ⟨a, c, h⟩ := hK.own.len; rw [List.length_map] at h; exact ⟨a, c, h⟩
  have hnl : (l.filter Cmd.may).length ≤ l.length := List.length_filter_le _ _
  generalize l.filter Cmd.may = ls0 at *
  subst hv4
  have HM0 : Hid (PMem w w2 p b D st4 (.slice a4 ls0.length c4) nilS nilS ls0 [] [] []) := by
    have h1 := HB1.out.size
    refine ⟨HS1.out.grown hK.below, HF1.out, hK.own, Tab.nil _, fun x hx => ⟨by have := hK.new x hx; omega, fun hf => by have := HS1.out.foot_lt hf; have := hK.new x hx; omega, fun ht => ?_⟩, fun x ht => ?_, HB1.out.trans (hK.below.mono h1)⟩
    all_goals
      rcases ht with ht | ht | ⟨u, hu, _⟩
      · cases ht
      · cases ht
      · cases hu
  have HL0 : Hid (PLog st4 st4.rev [] []) := ⟨rfl, by decide, by decide, HS1.out.good, fun j h1 h2 => by have : j ≤ 4 := h2; omega, fun j l hb => by simp at hb⟩
  have HMAY : Hid (∀ c ∈ ls0, c.may = true) := hmay
  obtain ⟨n, hn0⟩ : ∃ n, ls0.length = n := ⟨_, rfl⟩
  have hn1 : n * 80 ≤ 140737488355328 := by omega
  rw [hn0] at HM0 ⊢
  clear hK hmay hnl hr1 hn
  go_wp2_with fail
  go_loopw [5, 6, 7] (fun v5 v6 i wr => ∃ (k : Nat) (D : DataW Value) (s : St) (ls : List Cmd) (hs : List Value) (tl : List (List Fnd)) (bs : List Bool), k ≤ n ∧ i = .int .i64 k ∧ Hid (ls.length = n ∧ ∀ c ∈ ls, c.may = true) ∧ Hid (PMem w wr p b D s (.slice a4 n c4) v5 v6 ls hs tl bs) ∧ Hid (PLog s s.rev tl bs)) (fun _ _ i _ => n - (intOf i).toNat)
  case atStart => exact ⟨0, D, st4, ls0, [], [], [], Nat.zero_le _, rfl, ⟨hn0, HMAY.out⟩, HM0, HL0⟩
  case round =>
    clear HM0 HL0 HMAY HS1 HF1 hn0
    obtain ⟨k, D, s, ls, hs, tl, bs, hk, rfl, HLS, HM, HL⟩ := hrel
    by_cases hend : k < n ∧ k < 60
    · obtain ⟨hlt, h60⟩ := hend
      have hlt' : k < ls.length := by rw [HLS.out.1]; exact hlt
      obtain ⟨g4, rfl, hg4, hf4, hv4⟩ := Cmd.at_own HM.out.own4 hlt'
      obtain ⟨d0, d1, d2, d3, d4, d5, d6⟩ := Cmd.off hv4
      have HM1 : Hid (PMem w ((wr.setCell ⟨g4, k * 7 + 5, none⟩ (.int .i64 0)).setCell ⟨g4, k * 7 + 6, none⟩ (.int .i64 0)) p b D s (.slice (some ⟨g4, 0, none⟩) n c4) u5 u6 (ls.set k ls[k].bare) hs tl bs) := HM.out.bare hlt'
      have HLS1 : Hid ((ls.set k ls[k].bare).length = n ∧ ∀ c ∈ ls.set k ls[k].bare, c.may = true) := by
        refine ⟨by rw [List.length_set]; exact HLS.out.1, fun c hc => ?_⟩
        rcases List.mem_or_eq_of_mem_set hc with hc | rfl
        · exact HLS.out.2 c hc
        · exact bare_may (HLS.out.2 _ (List.getElem_mem _))
      have HC : Hid ((ls.set k ls[k].bare)[k]? = some ls[k].bare ∧ ls[k].bare.may = true ∧ ls[k].bare.ses = 0) := ⟨List.getElem?_set_self hlt', bare_may (HLS.out.2 _ (List.getElem_mem _)), rfl⟩
      have hkn : (k : Int) < n := by omega
      have hk60 : (k : Int) < 60 := by omega
      clear hv4 HM HLS
      generalize ls[k].bare = c at *
      generalize ls.set k c = ls at *
      go_wp2_with fail
      refine (storeRevs _ p b D s HM1.out.store).mono ?_
      rintro e w3 ⟨rfl, hb3⟩
      have HM3 : Hid (PMem w w3 p b D s (.slice (some ⟨g4, 0, none⟩) n c4) u5 u6 ls hs tl bs) := HM1.out.grow hb3
      have hk3 : k < ls.length := by rw [HLS1.out.1]; exact hlt
      have hck : ls[k] = c := by have := HC.out.1; rw [List.getElem?_eq_getElem hk3] at this; injection this
      obtain ⟨g4', eg, hg4, hf4, hv4⟩ := Cmd.at_own HM3.out.own4 hk3
      injection eg with eg
      injection eg with eg _ _
      subst eg
      rw [hck] at hv4
      clear d0 d1 d2 d3 d4 d5 d6 hb3 HM1
      obtain ⟨d0, d1, d2, d3, d4, d5, d6⟩ := Cmd.off hv4
      clear hv4
      go_wp2_with fail
      refine (pastDo (HM3.out.store.grown (by repeat (first | exact Below.refl _ _ | assumption | with_reducible refine below_drewN ?_ _ | refine Gr.ext ?_ _ | refine Gr.alloc ?_ _ | refine Gr.drew ?_ | (refine Gr.set ?_ (by first | (simp; done) | (simp; omega)) _)))) _ (fun hf => by have := HM3.out.store.foot_lt hf; simp at this) c (Hp.new rfl) HC.out.2.1 HC.out.2.2).mono ?_
      rintro e w4 ⟨g, D4, rfl, hg, r0, r1, r2, hS4, hF4, ht4⟩
      have HM4 : Hid (PMem w w4 p b D4 (s.act c).2 (.slice (some ⟨g4, 0, none⟩) n c4) u5 u6 ls hs tl bs) := (HM3.out.grow (Below.alloc (Below.refl _ _) (Nat.le_refl _) _)).act hS4 hF4 ht4
      have HL4 : Hid (PLog (s.act c).2 s.rev tl bs) := HL.out.act hS4.good
      have hact := act_rev s c
      have hbd := cmd_bd c HC.out.2.1
      have HKD : Hid (0 ≤ c.kind ∧ c.kind ≤ 4) := ⟨hbd.k0, hbd.k4⟩
      clear hS4 hF4 ht4 HM3 hbd d0 d1 d2 d3 d4 d5 d6 hg4 hf4
      as_aux_lemma =>
      obtain ⟨ok, hok⟩ : ∃ ok, (s.act c).1 = ok := ⟨_, rfl⟩
      obtain ⟨s4, hs4⟩ : ∃ s4, (s.act c).2 = s4 := ⟨_, rfl⟩
      rw [hs4] at HM4 HL4 r1
      rw [hok] at r0
      rw [hok, hs4] at hact
      clear hok hs4
      obtain ⟨g4', eg, hg4, hf4, hv4⟩ := Cmd.at_own HM4.out.own4 hk3
      injection eg with eg
      injection eg with eg _ _
      subst eg
      rw [hck] at hv4
      obtain ⟨d0, d1, d2, d3, d4, d5, d6⟩ := Cmd.off hv4
      clear hv4 hck d1 d2 d3 d4 d5 d6
      go_wp2_with fail
      obtain ⟨nw, hnw⟩ : ∃ nw, s4.rev = nw := ⟨_, rfl⟩
      have hrevs := storeRevs _ p b D4 s4 HM4.out.store
      rw [hnw] at hrevs
      have HNW : Hid (s4.rev = nw) := hnw
      have hsb : (s.rev : Int) ≤ 1000000 := by have := HL.out.good.rev; omega
      refine hrevs.mono ?_
      rintro e w5 ⟨rfl, hb5⟩
      have HM5 : Hid (PMem w w5 p b D4 s4 (.slice (some ⟨g4, 0, none⟩) n c4) u5 u6 ls hs tl bs) := HM4.out.grow hb5
      obtain ⟨x5, hx5⟩ := Below.ext hb5
      subst hx5
      have HA : Hid _ := hact
      rw [hnw] at r1
      clear hb5 HM4 hact hnw hrevs
      have hcase : (ok = true ∧ ¬ c.kind = 4 ∧ ¬ c.kind = 0 ∧ nw = s.rev + 1) ∨ (ok = true ∧ c.kind = 4 ∧ nw = s.rev) ∨ (ok = true ∧ c.kind = 0 ∧ nw = s.rev) ∨ (ok = false ∧ nw = s.rev) := by
        obtain ⟨h1, h2, _⟩ := HA.out
        have hnw := HNW.out
        cases ok
        · exact .inr (.inr (.inr ⟨rfl, hnw ▸ h2 (fun h => by cases h.1)⟩))
        · by_cases k4 : c.kind = 4
          · exact .inr (.inl ⟨rfl, k4, hnw ▸ h2 (fun h => h.2.1 k4)⟩)
          · by_cases k0 : c.kind = 0
            · exact .inr (.inr (.inl ⟨rfl, k0, hnw ▸ h2 (fun h => h.2.2 k0)⟩))
            · exact .inl ⟨rfl, k4, k0, hnw ▸ h1 ⟨rfl, k4, k0, HKD.out.1, HKD.out.2⟩⟩
      clear HA
      rcases hcase with ⟨rfl, k4, k0, rfl⟩ | ⟨rfl, k4, rfl⟩ | ⟨rfl, k0, rfl⟩ | ⟨rfl, rfl⟩
      all_goals
        as_aux_lemma =>
        try (have e3 : (c.kind == 4) = false := by rw [beq_eq_false_iff_ne]; exact k4)
        try (have e4 : (c.kind == 0) = false := by rw [beq_eq_false_iff_ne]; exact k0)
        go_wp2_with fail
        first
          | rw [show ((s.rev : Int) + 1) = (s4.rev : Int) by have := HNW.out; omega]
          | rw [show (s.rev : Int) = (s4.rev : Int) by have := HNW.out; omega]
        have HNW2 : Hid (s4.rev ≤ s.rev + 1) := by show _ ≤ _; have := HNW.out; omega
        try clear e3
        try clear e4
        try clear k4
        try clear k0
        clear r0 r1 r2 d0 hg HNW hf4 hg4
        have hs4b : (s4.rev : Int) ≤ 1000000 := by have := HL4.out.good.rev; omega
        as_aux_lemma =>
        go_loopw [5, 6] (fun v5 v6 wr => ∃ (hs : List Value) (tl : List (List Fnd)) (bs : List Bool), lenV v5 = tl.length ∧ Hid (PMem w wr p b D4 s4 (.slice (some ⟨g4, 0, none⟩) n c4) v5 v6 ls hs tl bs) ∧ Hid (PLog s4 s.rev tl bs)) (fun v5 _ _ => s4.rev + 1 - lenV v5)
        case atStart => exact ⟨hs, tl, bs, by obtain ⟨x, y, h⟩ := HM5.out.shape5; rw [h]; rfl, HM5, HL4⟩
        case round =>
          clear HM5 HL4
          obtain ⟨hs, tl, bs, -, HM6, HL6⟩ := hrel
          obtain ⟨a5, c5, hv5⟩ := HM6.out.shape5
          obtain ⟨a6, c6, hv6⟩ := HM6.out.shape6
          subst hv5 hv6
          have hlb := HL6.out.len
          rw [hlb] at HM6 ⊢
          have htop := HL6.out.top
          by_cases hle : tl.length ≤ s4.rev
          · as_aux_lemma =>
            have hle' : (tl.length : Int) ≤ s4.rev := by omega
            have hl5 : (hs.map fun h => [h]).length = tl.length := by rw [List.length_map, HM6.out.tab.len]
            have hl6 : (bs.map fun b => [Value.bool b]).length = tl.length := by rw [List.length_map, hlb]
            have hb1 : (hs.map fun h => [h]).length + 1 ≤ maxLen := by rw [hl5]; unfold maxLen; omega
            have hb2 : ((hs.map fun h => [h]).length + 1) * 24 ≤ 140737488355328 := by rw [hl5]; omega
            have hb3 : (bs.map fun b => [Value.bool b]).length + 1 ≤ maxLen := by rw [hl6]; unfold maxLen; omega
            have hb4 : ((bs.map fun b => [Value.bool b]).length + 1) * 1 ≤ 140737488355328 := by rw [hl6]; omega
            have HG : Hid (PLog s4 s.rev (tl ++ [[]]) (bs ++ [false])) := HL6.out.grow hle
            have ho5 := HM6.out.tab.own5
            go_wp2_with (at_builtin; refine Held.out ?_)
            unfold Held
            refine wpL_new rfl _ _ 64 rfl 73 1 24 _ Try.underlying64 infoFS rfl (by decide) (.slice a5 tl.length c5) (hs.map fun h => [h]) rfl (ho5.alloc _) #[.slice none 0 0] wr.heap.size rfl (heap_alloc_new wr _) rfl (fun u hu => by rw [List.mem_singleton.1 hu]; rfl) hb1 hb2 ?_
            intro a7 c7 w7 ho7 hg7 _
            have HM7 : Hid (PMem w w7 p b D4 s4 (.slice (some ⟨g4, 0, none⟩) n c4) (.slice a7 ((hs.map fun h => [h]).length + 1) c7) (.slice a6 tl.length c6) ls (hs ++ [nilS]) (tl ++ [[]]) bs) := (HM6.out.grow (by repeat (first | exact Below.refl _ _ | assumption | with_reducible refine below_drewN ?_ _ | refine Gr.ext ?_ _ | refine Gr.alloc ?_ _ | refine Gr.drew ?_ | (refine Gr.set ?_ (by first | (simp; done) | (simp; omega)) _)))).app5 ho7 hg7
            have ho6 := HM7.out.tab.own6
            clear ho7 hg7 ho5
            go_frame
            go_wp2_with (at_builtin; refine Held.out ?_)
            unfold Held
            refine wpL_new rfl _ _ 65 rfl 4 1 1 _ Try.underlying65 infoBool rfl (by decide) (.slice a6 tl.length c6) (bs.map fun b => [.bool b]) rfl (ho6.alloc _) #[.bool false] w7.heap.size rfl (heap_alloc_new w7 _) rfl (fun u hu => by rw [List.mem_singleton.1 hu]; rfl) hb3 hb4 ?_
            intro a8 c8 w8 ho8 hg8 _
            have HM8 : Hid (PMem w w8 p b D4 s4 (.slice (some ⟨g4, 0, none⟩) n c4) (.slice a7 ((hs.map fun h => [h]).length + 1) c7) (.slice a8 ((bs.map fun b => [Value.bool b]).length + 1) c8) ls (hs ++ [nilS]) (tl ++ [[]]) (bs ++ [false])) := (HM7.out.grow (by repeat (first | exact Below.refl _ _ | assumption | with_reducible refine below_drewN ?_ _ | refine Gr.ext ?_ _ | refine Gr.alloc ?_ _ | refine Gr.drew ?_ | (refine Gr.set ?_ (by first | (simp; done) | (simp; omega)) _)))).app6 ho8 hg8
            clear ho8 hg8 ho6
            go_frame
            go_wp2_with fail
            exact ⟨⟨hs ++ [nilS], tl ++ [[]], bs ++ [false], by rw [hl5]; simp [lenV], HM8, HG⟩, by rw [hl5]; simp [lenV]; omega⟩
          · as_aux_lemma =>
            have hnle : ¬ (tl.length : Int) ≤ s4.rev := by omega
            have htl : tl.length = s4.rev + 1 := by omega
            rw [htl] at HM6 ⊢
            have HLT : Hid (s4.rev < tl.length ∧ s4.rev < bs.length) := ⟨by omega, by omega⟩
            obtain ⟨g6, bv, rfl, hbv, hc6, hg6⟩ := HM6.out.have_ HLT.out.2
            obtain ⟨g5, ah, ch, l0, rfl, _, hc5, _, hg5⟩ := HM6.out.told HLT.out.1
            have hg65 : g6 ≠ g5 := fun e => owns_ne HM6.out.tab.own5 HM6.out.tab.own6 (by decide) (x := g5) rfl (by rw [e]; rfl)
            have hg56 : g5 ≠ g6 := fun e => hg65 e.symm
            have hf5 := fun o => own_frozen HM6.out.tab.own5 o
            have hf6 := fun o => own_frozen HM6.out.tab.own6 o
            have HBV : Hid (bs[s4.rev]? = some bv) := hbv
            clear hle hlb htop hbv
            cases bv
            case' false =>
              go_wp2_with fail
              refine (pastRange _ p b D4 s4 HM6.out.store s4.rev HL6.out.good.floor (Nat.le_refl _)).mono ?_
              rintro e w7 ⟨l', ra, rc, he7, hl', hrd, hnew, hb7⟩
              obtain ⟨lt, hlt0⟩ : ∃ lt, l'.take 1000 = lt := ⟨_, rfl⟩
              have HL9 : Hid (PLog s4 s4.rev (tl.set s4.rev (l'.take 1000)) (bs.set s4.rev true)) := HL6.out.put HLT.out.1 hl' HNW2.out
              rw [hlt0] at he7 hrd hnew HL9
              subst he7
              clear hlt0
              have HM7 : Hid (PMem w w7 p b D4 s4 (.slice (some ⟨g4, 0, none⟩) n c4) (.slice (some ⟨g5, 0, none⟩) (s4.rev + 1) c5) (.slice (some ⟨g6, 0, none⟩) (s4.rev + 1) c6) ls hs tl bs) := HM6.out.grow hb7
              have HM8 : Hid (PMem w (w7.setCell ⟨g5, s4.rev, none⟩ (.slice ra lt.length rc)) p b D4 s4 (.slice (some ⟨g4, 0, none⟩) n c4) (.slice (some ⟨g5, 0, none⟩) (s4.rev + 1) c5) (.slice (some ⟨g6, 0, none⟩) (s4.rev + 1) c6) ls (hs.set s4.rev (.slice ra lt.length rc)) (tl.set s4.rev lt) bs) :=
                HM7.out.set5 HLT.out.1 _ _ hrd fun x hx => ⟨(HM6.out.fresh (hnew x hx)).1, (HM6.out.fresh (hnew x hx)).2.1, (HM6.out.fresh (hnew x hx)).2.2, fun e => by have := HM6.out.tab.lt e; have := hnew x hx; omega⟩
              have HM9 : Hid (PMem w ((w7.setCell ⟨g5, s4.rev, none⟩ (.slice ra lt.length rc)).setCell ⟨g6, s4.rev, none⟩ (.bool true)) p b D4 s4 (.slice (some ⟨g4, 0, none⟩) n c4) (.slice (some ⟨g5, 0, none⟩) (s4.rev + 1) c5) (.slice (some ⟨g6, 0, none⟩) (s4.rev + 1) c6) ls (hs.set s4.rev (.slice ra lt.length rc)) (tl.set s4.rev lt) (bs.set s4.rev true)) := HM8.out.set6 HLT.out.2 true
              have htl9 : (tl.set s4.rev lt).length = s4.rev + 1 := by rw [List.length_set]; exact htl
              have hc5' : w7.cell? ⟨g5, s4.rev, none⟩ = some (.slice ah l0.length ch) := (hb7.cell (p := ⟨g5, s4.rev, none⟩) hg5).trans hc5
              have hc6' : w7.cell? ⟨g6, s4.rev, none⟩ = some (.bool false) := (hb7.cell (p := ⟨g6, s4.rev, none⟩) hg6).trans hc6
              have hf5' := fun o => own_frozen HM7.out.tab.own5 o
              have hf6' := fun o => own_frozen HM7.out.tab.own6 o
              have hg5' : g5 < w7.heap.size := Nat.lt_of_lt_of_le hg5 hb7.size
              have hg6' : g6 < w7.heap.size := Nat.lt_of_lt_of_le hg6 hb7.size
              clear hc5 hc6 hf5 hf6 hg5 hg6 hrd hnew hb7 HM7 HM8 HM6 HL6 hl' HBV
              generalize hs.set s4.rev (.slice ra lt.length rc) = hs9 at *
              generalize tl.set s4.rev lt = tl9 at *
              generalize bs.set s4.rev true = bs9 at *
              go_wp2_with fail
            case' true =>
              obtain ⟨hs9, tl9, bs9, htl9, HM9, HL9⟩ : ∃ (hs9 : List Value) (tl9 : List (List Fnd)) (bs9 : List Bool), tl9.length = s4.rev + 1 ∧ Hid (PMem w wr p b D4 s4 (.slice (some ⟨g4, 0, none⟩) n c4) (.slice (some ⟨g5, 0, none⟩) (s4.rev + 1) c5) (.slice (some ⟨g6, 0, none⟩) (s4.rev + 1) c6) ls hs9 tl9 bs9) ∧ Hid (PLog s4 s4.rev tl9 bs9) := ⟨hs, tl, bs, htl, HM6, HL6.out.has HBV.out HNW2.out⟩
              clear HL6 HM6 HBV
              go_wp2_with fail
            all_goals
              as_aux_lemma =>
              go_loopw [15] (fun kv wr => ∃ kk : Nat, 5 ≤ kk ∧ kk ≤ s4.rev + 1 ∧ kv = .int .i64 kk ∧ Hid (PMem w wr p b D4 s4 (.slice (some ⟨g4, 0, none⟩) n c4) (.slice (some ⟨g5, 0, none⟩) (s4.rev + 1) c5) (.slice (some ⟨g6, 0, none⟩) (s4.rev + 1) c6) ls hs9 tl9 bs9)) (fun kv _ => s4.rev + 1 - (intOf kv).toNat)
              case atStart => exact ⟨5, Nat.le_refl _, by have := HL9.out.r4; omega, rfl, HM9⟩
              case round =>
                clear HM9
                obtain ⟨kk, hk5, hkr, rfl, HM⟩ := hrel
                by_cases hle : kk ≤ s4.rev
                · have hle' : (kk : Int) ≤ s4.rev := by omega
                  obtain ⟨g5', ah', ch', l1, eg, hl1, hcc, hrd1, hg5'⟩ := HM.out.told (j := kk) (by omega)
                  injection eg with eg
                  injection eg with eg _ _
                  subst eg
                  have hbk := HL9.out.full kk hk5 hle
                  by_cases hfl : kk < s4.floor
                  · as_aux_lemma =>
                    have hfl' : (kk : Int) < s4.floor := by omega
                    have hfl2 : ¬ (s4.floor : Int) ≤ kk := by omega
                    have hno := pastRangeNo _ p b D4 s4 HM.out.store kk hfl
                    clear hrd1 hl1 hbk
                    go_wp2_with fail
                    refine hno.mono ?_
                    rintro e w7 ⟨rfl, hb7⟩
                    have HM7 : Hid _ := HM.out.grow hb7
                    have hcc' : w7.cell? ⟨g5, kk, none⟩ = some (.slice ah' l1.length ch') := (hb7.cell (p := ⟨g5, kk, none⟩) hg5').trans hcc
                    have hg5'' : g5 < w7.heap.size := Nat.lt_of_lt_of_le hg5' hb7.size
                    clear hb7 hcc hg5' hno
                    go_wp2_with fail
                    refine (sameFounds_nil _ _ _ _).mono ?_
                    rintro e w8 ⟨x, rfl, m8, rfl⟩
                    go_wp2_with fail
                    all_goals exact ⟨⟨kk + 1, by omega, by omega, val_int (by omega), HM7.out.grow (by repeat (first | exact Below.refl _ _ | assumption | with_reducible refine below_drewN ?_ _ | refine Gr.ext ?_ _ | refine Gr.alloc ?_ _ | refine Gr.drew ?_ | (refine Gr.set ?_ (by first | (simp; done) | (simp; omega)) _)))⟩, by simp [intOf]; omega⟩
                  · as_aux_lemma =>
                    have hfl' : ¬ (kk : Int) < s4.floor := by omega
                    have hfl2 : (s4.floor : Int) ≤ kk := by omega
                    have hyes := pastRange _ p b D4 s4 HM.out.store kk (by omega) hle
                    obtain ⟨l2, hl2, he2⟩ := HL9.out.ok kk l1 hbk hl1 (by omega)
                    have HR2 : Hid (RangeIs s4 xN xN kk l2 ∧ l1 = l2.take 1000) := ⟨hl2, he2⟩
                    clear hl1 hbk hl2 he2
                    go_wp2_with fail
                    refine hyes.mono ?_
                    rintro e w7 ⟨l3, a7, c7, rfl, hl3, hrd3, -, hb7⟩
                    have e3 : l3 = l2 := hl3.unique HR2.out.1 fun _ => rfl
                    have hcc' : w7.cell? ⟨g5, kk, none⟩ = some (.slice ah' l1.length ch') := (hb7.cell (p := ⟨g5, kk, none⟩) hg5').trans hcc
                    rw [e3, ← HR2.out.2] at hrd3 ⊢
                    have HM7 : Hid _ := HM.out.grow hb7
                    have hrd1' : w7.reads 3 (.slice ah' l1.length ch') (l1.map Fnd.cells) := readsGrown hrd1 hb7
                    have hg5'' : g5 < w7.heap.size := Nat.lt_of_lt_of_le hg5' hb7.size
                    have hl1n : l1.length ≤ 281474976710656 := by rw [HR2.out.2, List.length_take]; omega
                    have hsame := sameFounds_same a7 ah' c7 ch' l1 w7 hl1n hrd3 hrd1'
                    clear hb7 hcc hg5' hyes hrd3 hrd1 hrd1' hl3 e3 HR2 hl1n
                    go_wp2_with fail
                    refine hsame.mono ?_
                    rintro e w8 ⟨rfl, m8, rfl⟩
                    clear hsame
                    go_wp2_with fail
                    all_goals exact ⟨⟨kk + 1, by omega, by omega, val_int (by omega), HM7.out.grow (by repeat (first | exact Below.refl _ _ | assumption | with_reducible refine below_drewN ?_ _ | refine Gr.ext ?_ _ | refine Gr.alloc ?_ _ | refine Gr.drew ?_ | (refine Gr.set ?_ (by first | (simp; done) | (simp; omega)) _)))⟩, by simp [intOf]; omega⟩
                · as_aux_lemma =>
                  have hkk : kk = s4.rev + 1 := by omega
                  have hnle' : ¬ (kk : Int) ≤ s4.rev := by omega
                  go_wp2_with fail
                  all_goals exact ⟨⟨k + 1, D4, s4, ls, hs9, tl9, bs9, by omega, val_int (by omega), HLS1, HM, HL9⟩, by simp [intOf]; omega⟩
    · by_cases hlt : k < n
      · have h60 : ¬ k < 60 := fun h => hend ⟨hlt, h⟩
        have h60' : ¬ ((k : Int) < 60) := by omega
        go_wp2_with fail
        exact bodyPost_ret (v := .bool true) (by simp [results, Try.results7, go_sem]) rfl ⟨rfl, HM.out.below⟩
      · go_wp2_with fail
        exact bodyPost_ret (v := .bool true) (by simp [results, Try.results7, go_sem]) rfl ⟨rfl, HM.out.below⟩
end Go.Proofs.Ytcbbnmodjnnbeaa
