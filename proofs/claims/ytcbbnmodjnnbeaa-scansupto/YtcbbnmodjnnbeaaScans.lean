/- The law's book takes a list: ownRecords. -/
import Derived.Test.YtcbbnmodjnnbeaaSameRec
import Derived.Test.YtcbbnmodjnnbeaaPack2
import Derived.Deep.DeepMust
import Derived.BigQuiet
import Derived.Test.YtcbbnmodjnnbeaaRefScan
set_option linter.unusedSimpArgs false
set_option linter.unusedVariables false
namespace Go.Proofs.Ytcbbnmodjnnbeaa
open Go.RowKit

theorem bndRec_a {n : Nat} (he : n ≤ 1000000000) : ∀ k, k ≤ 3 → (n + (k + 1) + 1) * 32 ≤ 140737488355328 := by omega
theorem bndRec_b {n : Nat} (he : n ≤ 1000000000) : ∀ k, k ≤ 3 → n + (k + 1) + 1 ≤ maxLen := by unfold maxLen; omega
theorem bndRec_m {n : Nat} (hn : n ≤ 100000000000) : ∀ k, k ≤ 3 → (n + k + 1) * 144 ≤ 140737488355328 := by omega
theorem bndRec_d {n : Nat} (hn : n ≤ 100000000000) : ∀ k, k ≤ 3 → n + k + 1 ≤ maxLen := by unfold maxLen; omega
theorem infoRecL : (Try.prog.info? 25).map (fun i => (i.zero, i.size, i.bytes)) = some (some (.agg #[.int .i64 0, .int .i64 0, .int .i64 0, .int .i64 0, .int .i64 0, .int .i64 0, .int .i64 0, .string ⟨#[]⟩, .string ⟨#[]⟩, .string ⟨#[]⟩, .int .i64 0, .int .i64 0, .int .i64 0, .string ⟨#[]⟩]), 14, 144) := by kernel_rfl
theorem infoRecO : (Try.prog.info? 125).map (fun i => (i.zero, i.size, i.bytes)) = some (some (.agg #[.slice none 0 0, .int .i64 0]), 2, 32) := by kernel_rfl
set_option maxRecDepth 100000 in
set_option maxHeartbeats 2000000 in
theorem ownRecords (w : World) (bp : Nat) (a b c vb : Value) (es : List Ent) (al : Option Addr) (cap : Nat) (cs : List (List Value))
    (hbk : w.heap[bp]? = some (.cells #[a, b, c, vb] 43)) (ho : Outs w 125 14 mkRec bp vb es) (hl : w.ownL 25 14 (.slice al cs.length cap) cs)
    (hsep : ∀ k, (Value.slice al cs.length cap).ownBlock = some k → k ≠ bp ∧ ¬ footE vb es k) (hn : cs.length ≤ 100000000000) (he : es.length ≤ 1000000000) :
    Calls Try.prog 21 #[.pointer (some ⟨bp, 0, none⟩), .slice al cs.length cap] w fun e w' => e = .returned (.tuple #[]) ∧ ∃ vb' new, w'.heap[bp]? = some (.cells #[a, b, c, vb'] 43) ∧ Outs w' 125 14 mkRec bp vb' (es ++ new) ∧ new.length = 4 ∧ (∀ y ∈ new, y.n ≤ cs.length + 3 ∧ y.k = es.length) ∧
      (∀ k, footE vb' (es ++ new) k → footE vb es k ∨ (Value.slice al cs.length cap).ownBlock = some k ∨ w.heap.size ≤ k) ∧ w.turned w' (fun k => k = bp ∨ vb.ownBlock = some k ∨ (Value.slice al cs.length cap).ownBlock = some k) := by
  obtain ⟨g0, g1, g2, g3, gf⟩ := book_cells hbk
  obtain ⟨ab, capb, hvb⟩ := ho.own.len
  rw [List.length_map] at hvb
  have hbp : bp < w.heap.size := (Array.getElem?_eq_some_iff.1 hbk).1
  subst hvb
  have hby0 : ∀ k, k ≤ 3 → (cs.length + k + 1) * 144 ≤ 140737488355328 := bndRec_m hn
  have hby3 : ∀ k, k ≤ 3 → (es.length + (k + 1) + 1) * 32 ≤ 140737488355328 := bndRec_a he
  have hln3 : ∀ k, k ≤ 3 → es.length + (k + 1) + 1 ≤ maxLen := bndRec_b he
  have hln0 : ∀ k, k ≤ 3 → cs.length + k + 1 ≤ maxLen := bndRec_d hn
  go_enter Try.func21, Try.ntmps21
  go_wp2_with fail
  go_loopw [6] (fun i wr => ∃ k : Nat, k ≤ cs.length ∧ i = .int .i64 k ∧ wr.ownL 25 14 (.slice al cs.length cap) (List.replicate k (mkRec es.length) ++ cs.drop k) ∧ (w.alloc (.cells (mkRec es.length).toArray 25)).turned wr (fun j => (Value.slice al cs.length cap).ownBlock = some j) ∧ wr.heap[w.heap.size]? = some (.cells (mkRec es.length).toArray 25)) (fun i _ => cs.length - (intOf i).toNat)
  case atStart => exact ⟨0, Nat.zero_le _, rfl, hl.alloc _, World.turned.refl _ _, heap_alloc_new w _⟩
  case round =>
    obtain ⟨k, hk, rfl, ho1, ht1, hm1⟩ := hrel
    by_cases hlt : k < cs.length
    · obtain ⟨g, rfl⟩ : ∃ g, al = some ⟨g, 0, none⟩ := by
        rcases ho1.1.2 with ⟨_, h2⟩ | ⟨g, cap', cur, h1, _⟩
        · simp at h2; omega
        · injection h1 with h1; exact ⟨g, h1⟩
      have hlen : (List.replicate k (mkRec es.length) ++ cs.drop k).length = cs.length := by simp; omega
      have hset : (List.replicate k (mkRec es.length) ++ cs.drop k).set k (mkRec es.length) = List.replicate (k + 1) (mkRec es.length) ++ cs.drop (k + 1) := by
        rw [List.set_append_right _ _ (by simp), List.length_replicate, Nat.sub_self, List.drop_eq_getElem_cons hlt, List.set_cons_zero, List.replicate_succ', List.append_assoc]; rfl
      obtain ⟨m0, m1, m2, m3, m4, m5, m6, m7, m8, m9, ma, mb, mc, md⟩ := mkRec_at hm1
      go_wp2_with (refine wpL_store rfl 25 _ _ rfl 25 14 _ _ ho1 k (by rw [hlen]; exact hlt) g cs.length cap rfl _ rfl rfl (mkRec es.length).toArray rfl (by kernel_rfl) rfl (by simpa using mkRec_one es.length) ?_; intro w2 ho2 hg2)
      rw [show (mkRec es.length).toArray.toList = mkRec es.length by simp, hset] at ho2
      refine ⟨⟨k + 1, by omega, val_int (by omega), ho2, ht1.grew hg2 (fun j _ hj => hj), ?_⟩, by simp [intOf]; omega⟩
      rw [hg2.keep (Array.getElem?_eq_some_iff.1 hm1).1 (fun h => by have := hl.lt h; omega)]
      exact hm1
    · have hkk : k = cs.length := by omega
      subst hkk
      rw [List.drop_of_length_le (Nat.le_refl _), List.append_nil] at ho1
      have hm0 : w.heap.size < wr.heap.size := (Array.getElem?_eq_some_iff.1 hm1).1
      have hO : Owning (w.alloc (.cells (mkRec es.length).toArray 25)) wr 43 25 125 14 mkRec bp (fun v => #[a, b, c, v]) (.slice ab es.length capb) (.slice al cs.length cap) es es.length cs.length (.slice al cs.length cap) (.slice ab es.length capb) [] := by
        refine ⟨?_, ?_, ho1, fun x hx => ?_, fun x hx => ?_, fun x hx => .inl hx, ht1.mono fun k _ hk => .inr (.inr hk), fun y hy => nomatch hy⟩
        · rw [ht1.block bp (by simp; omega) fun hx => (hsep bp hx).1 rfl]; exact Hp.alloc hbk _
        · rw [List.append_nil]; exact (ho.keep fun k hk => Below.heap_alloc _ _ _ (ho.foot_lt hk)).turned ht1 fun k hk hx => (hsep k hx).2 hk
        · have h1 := hsep x hx
          refine ⟨h1.1, fun he => h1.2 (.inl he), fun y hy hyx => absurd (.inr ⟨y, by simpa using hy, hyx⟩) h1.2⟩
        · rw [List.append_nil] at hx; exact .inl hx
      have ho0 : ∀ {k}, (Value.slice ab es.length capb).ownBlock = some k → k < w.heap.size := fun h => ho.own.lt h
      have hf0 : ∀ {k}, footE (.slice ab es.length capb) es k → k < w.heap.size := fun h => ho.foot_lt h
      have hv0 : ∀ {k}, (Value.slice al cs.length cap).ownBlock = some k → k < w.heap.size := fun h => hl.lt h
      clear ho1 ht1 ho hbk hl hsep g0 g1 g2 g3 gf
      obtain ⟨m0, m1, m2, m3, m4, m5, m6, m7, m8, m9, ma, mb, mc, md⟩ := mkRec_at hm1
      obtain ⟨g0, g1, g2, g3, gf⟩ := book_cells hO.bk
      have hbpr := hO.lt
      have hlen1 : ((es ++ []).map Ent.row).length + 1 ≤ maxLen := by simp only [List.length_map, List.length_append, List.length_nil, maxLen]; omega
      have hby1 : (((es ++ []).map Ent.row).length + 1) * 32 ≤ 140737488355328 := by simp only [List.length_map, List.length_append, List.length_nil]; omega
      have hone : ∀ u ∈ (#[.slice al cs.length cap, .int .i64 es.length] : Array Value).toList, u.oneCell' = true := by
        intro u hu
        simp only [List.mem_cons, List.not_mem_nil, or_false] at hu
        rcases hu with rfl | rfl <;> rfl
      go_wp2_with (at_builtin; refine Held.out ?_)
      unfold Held
      refine wpL_new rfl _ _ 41 rfl 125 2 32 _ Try.underlying41 infoRecO rfl (by decide) (.slice ab es.length capb) _ rfl (hO.alloc _).out.own #[.slice al cs.length cap, .int .i64 es.length] _ rfl ?hc rfl hone hlen1 hby1 ?_
      case hc => exact new_cells' (by simp [go_sem]) rfl
      intro a1 cap1 w1 ho1 hg1 hB1
      have e1 : ((es ++ []).map Ent.row).length = es.length := by simp
      rw [e1] at ho1 hg1 hB1 ⊢
      have hb1 : w1.heap[bp]? = some (.cells #[a, b, c, .slice ab es.length capb] 43) := (hg1.keep (by simp; omega) hO.out.nb).trans (Hp.alloc hO.bk _)
      have hO2 := (hO.alloc _).put (o := 3) hg1 ho1 (fun x y => rfl)
      clear hlen1 hby1
      have hm2 : w1.heap[w.heap.size]? = some (.cells (mkRec es.length).toArray 25) := (hg1.keep (by simp; omega) (fun h => by have := ho0 h; omega)).trans (Hp.alloc hm1 _)
      have hm3 : (w1.setCell ⟨bp, 3, none⟩ (.slice a1 (es.length + 1) cap1)).heap[w.heap.size]? = some (.cells (mkRec es.length).toArray 25) := Hp.set hm2 (by simp; omega) _
      clear hO hm1 hm2 ho1 hg1 hB1 m0 m1 m2 m3 m4 m5 m6 m7 m8 m9 ma mb mc md g0 g1 g2 g3 gf
      obtain ⟨g0, g1, g2, g3, gf⟩ := book_cells hb1
      go_wp2_with fail
      go_loopw [1, 7] (fun l j wr2 => ∃ k : Nat, k ≤ 3 ∧ j = .int .i64 k ∧ ∃ al2 cap2 vb2 new, l = .slice al2 (cs.length + k) cap2 ∧ new.length = k + 1 ∧ Owning (w.alloc (.cells (mkRec es.length).toArray 25)) wr2 43 25 125 14 mkRec bp (fun v => #[a, b, c, v]) (.slice ab es.length capb) (.slice al cs.length cap) es es.length (cs.length + k) (.slice al2 (cs.length + k) cap2) vb2 new ∧ wr2.heap[w.heap.size]? = some (.cells (mkRec es.length).toArray 25)) (fun _ j _ => 3 - (intOf j).toNat)
      case atStart => exact ⟨0, by omega, rfl, al, cap, _, _, rfl, rfl, hO2, hm3⟩
      case round =>
        obtain ⟨k, hk, rfl, al2, cap2, vb2, new, rfl, hnl, hO, hm1⟩ := hrel
        have hbpr := hO.lt
        have hm0 : w.heap.size < wr.heap.size := (Array.getElem?_eq_some_iff.1 hm1).1
        by_cases hlt : k < 3
        · obtain ⟨m0, m1, m2, m3, m4, m5, m6, m7, m8, m9, ma, mb, mc, md⟩ := mkRec_at hm1
          have hlen1 : (List.replicate (cs.length + k) (mkRec es.length)).length + 1 ≤ maxLen := by rw [List.length_replicate]; exact hln0 k hk
          have hby1 : ((List.replicate (cs.length + k) (mkRec es.length)).length + 1) * 144 ≤ 140737488355328 := by rw [List.length_replicate]; exact hby0 k hk
          have hone : ∀ u ∈ (mkRec es.length).toArray.toList, u.oneCell' = true := by simpa using mkRec_one es.length
          go_wp2_with (at_builtin; refine Held.out ?_)
          unfold Held
          refine wpL_new rfl _ _ 33 rfl 25 14 144 _ Try.underlying33 infoRecL rfl (by decide) (.slice al2 (cs.length + k) cap2) _ rfl (hO.alloc _).own (mkRec es.length).toArray _ rfl ?hc rfl hone hlen1 hby1 ?_
          case hc => exact new_cells' (by simp [go_sem]) rfl
          intro a1 cap1 w1 ho1 hg1 hB1
          rw [List.length_replicate] at ho1 hg1 hB1 ⊢
          have hO2 := (hO.alloc _).more hg1 (by simpa [List.replicate_succ'] using ho1) hB1
          have hb1 := hO2.bk
          have hm2 : w1.heap[w.heap.size]? = some (.cells (mkRec es.length).toArray 25) := (hg1.keep (by simp; omega) (fun h => (hO.lfoot _ h).elim (fun h1 => Nat.lt_irrefl _ (hv0 h1)) (fun h1 => by simp at h1; omega))).trans (Hp.alloc hm1 _)
          clear hO ho1 hg1 hB1 m0 m1 m2 m3 m4 m5 m6 m7 m8 m9 ma mb mc md hm1 hlen1 hby1
          obtain ⟨g0, g1, g2, g3, gf⟩ := book_cells hb1
          obtain ⟨ab2, capb2, hv2⟩ := hO2.out.own.len
          have e2 : ((es ++ new).map Ent.row).length = es.length + (k + 1) := by simp [hnl]
          rw [e2] at hv2
          subst hv2
          have hlen2 : ((es ++ new).map Ent.row).length + 1 ≤ maxLen := by rw [e2]; exact hln3 k hk
          have hby2 : (((es ++ new).map Ent.row).length + 1) * 32 ≤ 140737488355328 := by rw [e2]; exact hby3 k hk
          have hone2 : ∀ u ∈ (#[.slice a1 (cs.length + k + 1) cap1, .int .i64 es.length] : Array Value).toList, u.oneCell' = true := by
            intro u hu
            simp only [List.mem_cons, List.not_mem_nil, or_false] at hu
            rcases hu with rfl | rfl <;> rfl
          have hm0 : w.heap.size < w1.heap.size := (Array.getElem?_eq_some_iff.1 hm2).1
          have hbp1 := hO2.lt
          go_wp2_with (at_builtin; refine Held.out ?_)
          unfold Held
          refine wpL_new rfl _ _ 41 rfl 125 2 32 _ Try.underlying41 infoRecO rfl (by decide) (.slice ab2 (es.length + (k + 1)) capb2) _ rfl (hO2.alloc _).out.own #[.slice a1 (cs.length + k + 1) cap1, .int .i64 es.length] _ rfl ?hc rfl hone2 hlen2 hby2 ?_
          case hc => exact new_cells' (by simp [go_sem]) rfl
          intro a3 cap3 w3 ho3 hg3 hB3
          rw [e2] at ho3 hg3 hB3 ⊢
          have hb3 : w3.heap[bp]? = some (.cells #[a, b, c, .slice ab2 (es.length + (k + 1)) capb2] 43) := (hg3.keep (by simp; omega) hO2.out.nb).trans (Hp.alloc hO2.bk _)
          have hm4 : w3.heap[w.heap.size]? = some (.cells (mkRec es.length).toArray 25) := (hg3.keep (by simp; omega) (fun h => (hO2.foot _ (.inl h)).elim (fun h1 => Nat.lt_irrefl _ (hf0 h1)) (fun h1 => h1.elim (fun h1 => Nat.lt_irrefl _ (hv0 h1)) (fun h1 => by simp at h1; omega)))).trans (Hp.alloc hm2 _)
          have hO4 := (hO2.alloc _).put (o := 3) hg3 ho3 (fun x y => rfl)
          clear g0 g1 g2 g3 gf
          obtain ⟨g0, g1, g2, g3, gf⟩ := book_cells hb3
          go_wp2_with fail
          exact ⟨⟨k + 1, by omega, val_int (by omega), a1, cap1, _, _, rfl, by simp [hnl], hO4, Hp.set hm4 (by simp; omega) _⟩, by simp [intOf]; omega⟩
        · have hkk : k = 3 := by omega
          subst hkk
          go_wp2
          go_end0
          refine ⟨rfl, vb2, new, hO.bk, hO.out, by omega, hO.ns, fun x hx => ?_, ?_⟩
          · rcases hO.foot x hx with h1 | h1 | h1
            · exact .inl h1
            · exact .inr (.inl h1)
            · exact .inr (.inr (by simp at h1; omega))
          · exact ((World.turned.refl w _).alloc _).trans hO.turned fun _ _ h => h
end Go.Proofs.Ytcbbnmodjnnbeaa
/- The law's book looks at all lists that it has: they read as they were written. -/
set_option linter.unusedSimpArgs false
set_option linter.unusedVariables false
namespace Go.Proofs.Ytcbbnmodjnnbeaa
open Go.RowKit

set_option maxRecDepth 100000 in
set_option maxHeartbeats 4000000 in
theorem lawLooks (w : World) (bp : Nat) (vR vF vE vC : Value) (eR eF eE eC : List Ent)
    (hbk : w.heap[bp]? = some (.cells #[vR, vF, vE, vC] 43))
    (hR : Outs w 127 3 mkRes bp vR eR) (nR : eR.length ≤ 1000000000) (bR : ∀ y ∈ eR, y.n ≤ 1000000000000 ∧ y.k ≤ 1000000000000)
    (hF : Outs w 129 3 mkFnd bp vF eF) (nF : eF.length ≤ 1000000000) (bF : ∀ y ∈ eF, y.n ≤ 1000000000000 ∧ y.k ≤ 1000000000000)
    (hE : Outs w 133 8 mkEty bp vE eE) (nE : eE.length ≤ 1000000000) (bE : ∀ y ∈ eE, y.n ≤ 1000000000000 ∧ y.k ≤ 1000000000000)
    (hC : Outs w 125 14 mkRec bp vC eC) (nC : eC.length ≤ 1000000000) (bC : ∀ y ∈ eC, y.n ≤ 1000000000000 ∧ y.k ≤ 1000000000000)
    : Calls Try.prog 22 #[.pointer (some ⟨bp, 0, none⟩)] w fun e w' => e = .returned (.bool true) ∧ Below w.heap.size w w' := by
  have hbp : bp < w.heap.size := (Array.getElem?_eq_some_iff.1 hbk).1
  obtain ⟨aR, capR, hvR⟩ := hR.own.len
  rw [List.length_map] at hvR
  subst hvR
  obtain ⟨aF, capF, hvF⟩ := hF.own.len
  rw [List.length_map] at hvF
  subst hvF
  obtain ⟨aE, capE, hvE⟩ := hE.own.len
  rw [List.length_map] at hvE
  subst hvE
  obtain ⟨aC, capC, hvC⟩ := hC.own.len
  rw [List.length_map] at hvC
  subst hvC
  have hneR := mkRes_neq
  have hneF := mkFnd_neq
  have hneE := mkEty_neq
  have hneC := mkRec_neq
  have hb0 : Below w.heap.size w w := Below.refl _ _
  go_enter Try.func22, Try.ntmps22
  obtain ⟨c0, c1, c2, c3, -⟩ := book_cells hbk
  go_wp2_with fail
  go_loopw [3] (fun iv wr => ∃ i : Nat, i ≤ eR.length ∧ iv = .int .i64 i ∧ Below w.heap.size w wr) (fun iv _ => eR.length - (intOf iv).toNat)
  case atStart => exact ⟨0, Nat.zero_le _, rfl, by assumption⟩
  case round =>
    obtain ⟨i, hi, rfl, hb⟩ := hrel
    have hbs := hb.size
    clear c0 c1 c2 c3
    obtain ⟨c0, c1, c2, c3, -⟩ := book_cells ((hb.block bp hbp).trans hbk)
    by_cases hlt : i < eR.length
    · obtain ⟨y, hy⟩ : ∃ y, eR[i]? = some y := ⟨_, List.getElem?_eq_getElem hlt⟩
      obtain ⟨g, cap, hv, hg, hc0, hc1⟩ := hR.ent hy
      have hym := List.mem_of_getElem? hy
      have hyn := bR y hym
      have hyr := hR.rd y hym
      obtain ⟨yv, yn, yk⟩ := y
      obtain ⟨ya, ycap, hyv⟩ := hyr.len
      simp only [List.length_replicate] at hyv hyn
      simp only at hc0 hc1 hyr
      rw [hyv] at hc0 hyr
      clear hy hym hyv
      injection hv with hv1 hv2 hv3
      subst hv1
      have d0 : wr.cell? ⟨g, i * 2, none⟩ = some (.slice ya yn ycap) := (hb.cell (p := ⟨g, i * 2, none⟩) hg).trans hc0
      have d1 : wr.cell? ⟨g, i * 2 + 1, none⟩ = some (.int .i64 yk) := (hb.cell (p := ⟨g, i * 2 + 1, none⟩) hg).trans hc1
      go_wp2_with fail
      go_loopw [5] (fun jv wr2 => ∃ j : Nat, j ≤ yn ∧ jv = .int .i64 j ∧ Below w.heap.size w wr2 ∧ wr2.heap[wr.heap.size]? = some (.cells (mkRes yk).toArray 72)) (fun jv _ => yn - (intOf jv).toNat)
      case atStart => exact ⟨0, Nat.zero_le _, rfl, hb.alloc hb.size _, heap_alloc_new wr _⟩
      case round =>
        obtain ⟨j, hj, rfl, hb2, hm⟩ := hrel
        clear c0 c1 c2 c3 d0 d1
        obtain ⟨c0, c1, c2, c3, -⟩ := book_cells ((hb2.block bp hbp).trans hbk)
        have d0 : wr.cell? ⟨g, i * 2, none⟩ = some (.slice ya yn ycap) := (hb2.cell (p := ⟨g, i * 2, none⟩) hg).trans hc0
        by_cases hlj : j < yn
        · obtain ⟨g2, off, cap2, hv2, hg2, hr2⟩ := reads_at hyr hlj
          injection hv2 with hw1 hw2 hw3
          subst hw1
          obtain ⟨r0, r1, r2⟩ := mkRes_off (range_below hr2 hb2 hg2)
          obtain ⟨m0, m1, m2⟩ := mkRes_at hm
          clear hr2 hyr
          go_wp2_with fail
          go_quiet (fail)
          go_wp2_with fail
          exact ⟨⟨j + 1, by omega, val_int (by omega), below_drewN hb2 nq, by assumption⟩, by simp [intOf]; omega⟩
        · have hjj : j = yn := by omega
          subst hjj
          go_wp2_with fail
          exact ⟨⟨i + 1, by omega, val_int (by omega), hb2⟩, by simp [intOf]; omega⟩
    · have hii : i = eR.length := by omega
      subst hii
      go_wp2_with fail
      go_loopw [6] (fun iv wr => ∃ i : Nat, i ≤ eF.length ∧ iv = .int .i64 i ∧ Below w.heap.size w wr) (fun iv _ => eF.length - (intOf iv).toNat)
      case atStart => exact ⟨0, Nat.zero_le _, rfl, by assumption⟩
      case round =>
        obtain ⟨i, hi, rfl, hb⟩ := hrel
        have hbs := hb.size
        clear c0 c1 c2 c3
        obtain ⟨c0, c1, c2, c3, -⟩ := book_cells ((hb.block bp hbp).trans hbk)
        by_cases hlt : i < eF.length
        · obtain ⟨y, hy⟩ : ∃ y, eF[i]? = some y := ⟨_, List.getElem?_eq_getElem hlt⟩
          obtain ⟨g, cap, hv, hg, hc0, hc1⟩ := hF.ent hy
          have hym := List.mem_of_getElem? hy
          have hyn := bF y hym
          have hyr := hF.rd y hym
          obtain ⟨yv, yn, yk⟩ := y
          obtain ⟨ya, ycap, hyv⟩ := hyr.len
          simp only [List.length_replicate] at hyv hyn
          simp only at hc0 hc1 hyr
          rw [hyv] at hc0 hyr
          clear hy hym hyv
          injection hv with hv1 hv2 hv3
          subst hv1
          have d0 : wr.cell? ⟨g, i * 2, none⟩ = some (.slice ya yn ycap) := (hb.cell (p := ⟨g, i * 2, none⟩) hg).trans hc0
          have d1 : wr.cell? ⟨g, i * 2 + 1, none⟩ = some (.int .i64 yk) := (hb.cell (p := ⟨g, i * 2 + 1, none⟩) hg).trans hc1
          go_wp2_with fail
          go_loopw [8] (fun jv wr2 => ∃ j : Nat, j ≤ yn ∧ jv = .int .i64 j ∧ Below w.heap.size w wr2 ∧ wr2.heap[wr.heap.size]? = some (.cells (mkFnd yk).toArray 131)) (fun jv _ => yn - (intOf jv).toNat)
          case atStart => exact ⟨0, Nat.zero_le _, rfl, hb.alloc hb.size _, heap_alloc_new wr _⟩
          case round =>
            obtain ⟨j, hj, rfl, hb2, hm⟩ := hrel
            clear c0 c1 c2 c3 d0 d1
            obtain ⟨c0, c1, c2, c3, -⟩ := book_cells ((hb2.block bp hbp).trans hbk)
            have d0 : wr.cell? ⟨g, i * 2, none⟩ = some (.slice ya yn ycap) := (hb2.cell (p := ⟨g, i * 2, none⟩) hg).trans hc0
            by_cases hlj : j < yn
            · obtain ⟨g2, off, cap2, hv2, hg2, hr2⟩ := reads_at hyr hlj
              injection hv2 with hw1 hw2 hw3
              subst hw1
              obtain ⟨r0, r1, r2⟩ := mkFnd_off (range_below hr2 hb2 hg2)
              obtain ⟨m0, m1, m2⟩ := mkFnd_at hm
              clear hr2 hyr
              go_wp2_with fail
              go_quiet (fail)
              go_wp2_with fail
              exact ⟨⟨j + 1, by omega, val_int (by omega), below_drewN hb2 nq, by assumption⟩, by simp [intOf]; omega⟩
            · have hjj : j = yn := by omega
              subst hjj
              go_wp2_with fail
              exact ⟨⟨i + 1, by omega, val_int (by omega), hb2⟩, by simp [intOf]; omega⟩
        · have hii : i = eF.length := by omega
          subst hii
          go_wp2_with fail
          go_loopw [9] (fun iv wr => ∃ i : Nat, i ≤ eE.length ∧ iv = .int .i64 i ∧ Below w.heap.size w wr) (fun iv _ => eE.length - (intOf iv).toNat)
          case atStart => exact ⟨0, Nat.zero_le _, rfl, by assumption⟩
          case round =>
            obtain ⟨i, hi, rfl, hb⟩ := hrel
            have hbs := hb.size
            clear c0 c1 c2 c3
            obtain ⟨c0, c1, c2, c3, -⟩ := book_cells ((hb.block bp hbp).trans hbk)
            by_cases hlt : i < eE.length
            · obtain ⟨y, hy⟩ : ∃ y, eE[i]? = some y := ⟨_, List.getElem?_eq_getElem hlt⟩
              obtain ⟨g, cap, hv, hg, hc0, hc1⟩ := hE.ent hy
              have hym := List.mem_of_getElem? hy
              have hyn := bE y hym
              have hyr := hE.rd y hym
              obtain ⟨yv, yn, yk⟩ := y
              obtain ⟨ya, ycap, hyv⟩ := hyr.len
              simp only [List.length_replicate] at hyv hyn
              simp only at hc0 hc1 hyr
              rw [hyv] at hc0 hyr
              clear hy hym hyv
              injection hv with hv1 hv2 hv3
              subst hv1
              have d0 : wr.cell? ⟨g, i * 2, none⟩ = some (.slice ya yn ycap) := (hb.cell (p := ⟨g, i * 2, none⟩) hg).trans hc0
              have d1 : wr.cell? ⟨g, i * 2 + 1, none⟩ = some (.int .i64 yk) := (hb.cell (p := ⟨g, i * 2 + 1, none⟩) hg).trans hc1
              go_wp2_with fail
              go_loopw [11] (fun jv wr2 => ∃ j : Nat, j ≤ yn ∧ jv = .int .i64 j ∧ Below w.heap.size w wr2 ∧ wr2.heap[wr.heap.size]? = some (.cells (mkEty yk).toArray 135)) (fun jv _ => yn - (intOf jv).toNat)
              case atStart => exact ⟨0, Nat.zero_le _, rfl, hb.alloc hb.size _, heap_alloc_new wr _⟩
              case round =>
                obtain ⟨j, hj, rfl, hb2, hm⟩ := hrel
                clear c0 c1 c2 c3 d0 d1
                obtain ⟨c0, c1, c2, c3, -⟩ := book_cells ((hb2.block bp hbp).trans hbk)
                have d0 : wr.cell? ⟨g, i * 2, none⟩ = some (.slice ya yn ycap) := (hb2.cell (p := ⟨g, i * 2, none⟩) hg).trans hc0
                by_cases hlj : j < yn
                · obtain ⟨g2, off, cap2, hv2, hg2, hr2⟩ := reads_at hyr hlj
                  injection hv2 with hw1 hw2 hw3
                  subst hw1
                  obtain ⟨r0, r1, r2, r3, r4, r5, r6, r7⟩ := mkEty_off (range_below hr2 hb2 hg2)
                  obtain ⟨m0, m1, m2, m3, m4, m5, m6, m7⟩ := mkEty_at hm
                  clear hr2 hyr
                  go_wp2_with fail
                  go_quiet (fail)
                  go_wp2_with fail
                  exact ⟨⟨j + 1, by omega, val_int (by omega), below_drewN hb2 nq, by assumption⟩, by simp [intOf]; omega⟩
                · have hjj : j = yn := by omega
                  subst hjj
                  go_wp2_with fail
                  exact ⟨⟨i + 1, by omega, val_int (by omega), hb2⟩, by simp [intOf]; omega⟩
            · have hii : i = eE.length := by omega
              subst hii
              go_wp2_with fail
              go_loopw [12] (fun iv wr => ∃ i : Nat, i ≤ eC.length ∧ iv = .int .i64 i ∧ Below w.heap.size w wr) (fun iv _ => eC.length - (intOf iv).toNat)
              case atStart => exact ⟨0, Nat.zero_le _, rfl, by assumption⟩
              case round =>
                obtain ⟨i, hi, rfl, hb⟩ := hrel
                have hbs := hb.size
                clear c0 c1 c2 c3
                obtain ⟨c0, c1, c2, c3, -⟩ := book_cells ((hb.block bp hbp).trans hbk)
                by_cases hlt : i < eC.length
                · obtain ⟨y, hy⟩ : ∃ y, eC[i]? = some y := ⟨_, List.getElem?_eq_getElem hlt⟩
                  obtain ⟨g, cap, hv, hg, hc0, hc1⟩ := hC.ent hy
                  have hym := List.mem_of_getElem? hy
                  have hyn := bC y hym
                  have hyr := hC.rd y hym
                  obtain ⟨yv, yn, yk⟩ := y
                  obtain ⟨ya, ycap, hyv⟩ := hyr.len
                  simp only [List.length_replicate] at hyv hyn
                  simp only at hc0 hc1 hyr
                  rw [hyv] at hc0 hyr
                  clear hy hym hyv
                  injection hv with hv1 hv2 hv3
                  subst hv1
                  have d0 : wr.cell? ⟨g, i * 2, none⟩ = some (.slice ya yn ycap) := (hb.cell (p := ⟨g, i * 2, none⟩) hg).trans hc0
                  have d1 : wr.cell? ⟨g, i * 2 + 1, none⟩ = some (.int .i64 yk) := (hb.cell (p := ⟨g, i * 2 + 1, none⟩) hg).trans hc1
                  go_wp2_with fail
                  go_loopw [14] (fun jv wr2 => ∃ j : Nat, j ≤ yn ∧ jv = .int .i64 j ∧ Below w.heap.size w wr2 ∧ wr2.heap[wr.heap.size]? = some (.cells (mkRec yk).toArray 25)) (fun jv _ => yn - (intOf jv).toNat)
                  case atStart => exact ⟨0, Nat.zero_le _, rfl, hb.alloc hb.size _, heap_alloc_new wr _⟩
                  case round =>
                    obtain ⟨j, hj, rfl, hb2, hm⟩ := hrel
                    clear c0 c1 c2 c3 d0 d1
                    obtain ⟨c0, c1, c2, c3, -⟩ := book_cells ((hb2.block bp hbp).trans hbk)
                    have d0 : wr.cell? ⟨g, i * 2, none⟩ = some (.slice ya yn ycap) := (hb2.cell (p := ⟨g, i * 2, none⟩) hg).trans hc0
                    by_cases hlj : j < yn
                    · obtain ⟨g2, off, cap2, hv2, hg2, hr2⟩ := reads_at hyr hlj
                      injection hv2 with hw1 hw2 hw3
                      subst hw1
                      obtain ⟨r0, r1, r2, r3, r4, r5, r6, r7, r8, r9, r10, r11, r12, r13⟩ := mkRec_off (range_below hr2 hb2 hg2)
                      obtain ⟨m0, m1, m2, m3, m4, m5, m6, m7, m8, m9, m10, m11, m12, m13⟩ := mkRec_at hm
                      clear hr2 hyr
                      go_wp2_with fail
                      go_quiet (fail)
                      go_wp2_with fail
                      exact ⟨⟨j + 1, by omega, val_int (by omega), below_drewN hb2 nq, by assumption⟩, by simp [intOf]; omega⟩
                    · have hjj : j = yn := by omega
                      subst hjj
                      go_wp2_with fail
                      exact ⟨⟨i + 1, by omega, val_int (by omega), hb2⟩, by simp [intOf]; omega⟩
                · have hii : i = eC.length := by omega
                  subst hii
                  go_wp2_with fail
                  go_ret
                  exact ⟨rfl, hb⟩
end Go.Proofs.Ytcbbnmodjnnbeaa
/- The walk of the statement on every Scan. -/
set_option linter.unusedSimpArgs false
set_option linter.unusedVariables false
namespace Go.Proofs.Ytcbbnmodjnnbeaa
open Go.RowKit

theorem OwnR.L {w : World} {base : Nat} {v : Value} {rs : List Rec} (h : OwnR w base v rs) : w.ownL 25 14 v (rs.map Rec.cells) := by
  refine ⟨?_, fun c hc => by obtain ⟨r, _, rfl⟩ := List.mem_map.1 hc; rfl⟩
  rw [List.length_map, ← List.flatMap_def]
  exact ownsRow_base h fun k _ => Nat.zero_le _

theorem ownRecords_as (rs : List Rec) (w : World) (bp : Nat) (a b c vb : Value) (es : List Ent) (al : Option Addr) (cap : Nat)
    (hbk : w.heap[bp]? = some (.cells #[a, b, c, vb] 43)) (ho : Outs w 125 14 mkRec bp vb es) (hl : w.ownL 25 14 (.slice al rs.length cap) (rs.map Rec.cells))
    (hsep : ∀ k, (Value.slice al rs.length cap).ownBlock = some k → k ≠ bp ∧ ¬ footE vb es k) (hn : rs.length ≤ 100000000000) (he : es.length ≤ 1000000000) :
    Calls Try.prog 21 #[.pointer (some ⟨bp, 0, none⟩), .slice al rs.length cap] w fun e w' => e = .returned (.tuple #[]) ∧ ∃ vb' new, w'.heap[bp]? = some (.cells #[a, b, c, vb'] 43) ∧ Outs w' 125 14 mkRec bp vb' (es ++ new) ∧ new.length = 4 ∧ (∀ y ∈ new, y.n ≤ rs.length + 3 ∧ y.k = es.length) ∧
      (∀ k, footE vb' (es ++ new) k → footE vb es k ∨ (Value.slice al rs.length cap).ownBlock = some k ∨ w.heap.size ≤ k) ∧ w.turned w' (fun k => k = bp ∨ vb.ownBlock = some k ∨ (Value.slice al rs.length cap).ownBlock = some k) := by
  have h := ownRecords w bp a b c vb es al cap (rs.map Rec.cells)
  rw [List.length_map] at h
  exact h hbk ho hl hsep hn he
set_option maxRecDepth 100000 in
set_option maxHeartbeats 2000000 in
theorem lawScans (s : ByteArray) (w : World) (hs : s.size ≤ 100000000) :
    Calls Try.prog 4 #[.string s] w fun e w' => e = .returned (.bool true) ∧ Below w.heap.size w w' := by
  have hs' : Hid (s.size ≤ 100000000) := hs
  have hsl : Hid (s.data.toList.length = s.size) := len_data s
  clear hs
  go_enter Try.func4, Try.ntmps4
  go_wp2_with fail
  refine (refScan s _ hs'.out).mono ?_
  rintro e w1 ⟨v0, rs, l, H1, H2, rfl, ho0, hb0⟩
  obtain ⟨a0, p0, hv0⟩ := ho0.L.len
  rw [List.length_map] at hv0
  subst hv0
  go_wp2_with fail
  refine (codecScan s _ (by have := hs'.out; omega)).mono ?_
  rintro e w2 ⟨v1, rs1, l1, H3, H4, rfl, ho1, hb1⟩
  obtain ⟨e1, e2⟩ := ScanTo.same _ _ _ _ _ H1.out H2.out H3.out H4.out
  subst e1 e2
  clear H3 H4
  obtain ⟨a1, p1, hv1⟩ := ho1.L.len
  rw [List.length_map] at hv1
  subst hv1
  go_wp2_with fail
  refine (codecScan s _ (by have := hs'.out; omega)).mono ?_
  rintro e w3 ⟨v2, rs1, l1, H3, H4, rfl, ho2, hb2⟩
  obtain ⟨e1, e2⟩ := ScanTo.same _ _ _ _ _ H1.out H2.out H3.out H4.out
  subst e1 e2
  clear H3 H4
  obtain ⟨a2, p2, hv2⟩ := ho2.L.len
  rw [List.length_map] at hv2
  subst hv2
  have hrl : rs.length ≤ 100000000 := by have h1 := ScanTo.len _ _ _ H1.out; have h2 := hsl.out; have h3 := hs'.out; omega
  have q01 : w.heap.size ≤ w1.heap.size := hb0.size
  have q12 : w1.heap.size ≤ w2.heap.size := hb1.size
  have q23 : w2.heap.size ≤ w3.heap.size := hb2.size
  have L0 : w3.ownL 25 14 (.slice a0 rs.length p0) (rs.map Rec.cells) := (ho0.L.keep fun k hk => hb1.block k (ho0.lt hk).2).keep fun k hk => hb2.block k (by have := (ho0.lt hk).2; omega)
  have L1 : w3.ownL 25 14 (.slice a1 rs.length p1) (rs.map Rec.cells) := ho1.L.keep fun k hk => hb2.block k (ho1.lt hk).2
  have L2 : w3.ownL 25 14 (.slice a2 rs.length p2) (rs.map Rec.cells) := ho2.L
  have B1 : ∀ k, (Value.slice a1 rs.length p1).ownBlock = some k → w1.heap.size ≤ k ∧ k < w2.heap.size := fun k hk => ho1.lt hk
  have B2 : ∀ k, (Value.slice a2 rs.length p2).ownBlock = some k → w2.heap.size ≤ k ∧ k < w3.heap.size := fun k hk => ho2.lt hk
  have HB : Below w.heap.size w w3 := (hb0.trans (hb1.mono q01)).trans (hb2.mono (by omega))
  clear ho0 ho1 ho2 hb0 hb1 hb2 H1 H2
  go_wp2_with fail
  refine (sameRecords_same _ _ _ _ rs _ (by omega) L1.reads L0.reads).mono ?_
  rintro e w4 ⟨rfl, n4, hw4⟩
  have M0 : w4.ownL 25 14 (.slice a0 rs.length p0) (rs.map Rec.cells) := by rw [hw4]; exact L0.drewN n4
  have M2 : w4.ownL 25 14 (.slice a2 rs.length p2) (rs.map Rec.cells) := by rw [hw4]; exact L2.drewN n4
  have HW4 : Hid (w4 = w3.drewN n4) := hw4
  clear hw4
  go_wp2_with fail
  refine (sameRecords_same _ _ _ _ rs _ (by omega) M2.reads M0.reads).mono ?_
  rintro e w5 ⟨rfl, n5, hw5⟩
  have N1 : w5.ownL 25 14 (.slice a1 rs.length p1) (rs.map Rec.cells) := by rw [hw5, HW4.out]; exact (L1.drewN n4).drewN n5
  have N2 : w5.ownL 25 14 (.slice a2 rs.length p2) (rs.map Rec.cells) := by rw [hw5, HW4.out]; exact (L2.drewN n4).drewN n5
  have HB5 : Below w.heap.size w w5 := by rw [hw5, HW4.out]; exact below_drewN (below_drewN HB n4) n5
  have Q35 : Hid (w5.heap.size = w3.heap.size) := by show _ = _; rw [hw5, HW4.out]; rfl
  clear hw5 HW4 M0 M2 L0 L1 L2 HB
  go_wp2_with fail
  refine (ownRecords_as rs (w5.alloc (.cells #[.slice none 0 0, .slice none 0 0, .slice none 0 0, .slice none 0 0] 43)) w5.heap.size _ _ _ (.slice none 0 0) [] a1 p1 (heap_alloc_new w5 _) (Outs.nil _ _ _ _ _) (N1.alloc _) (fun k hk => ⟨by have := B1 k hk; have := Q35.out; omega, foot_nil k⟩) (by omega) (by simp)).mono ?_
  rintro e w6 ⟨rfl, vb6, new6, hbk6, hO6, hn6, hm6, hf6, ht6⟩
  have q35 := Q35.out
  have q56 := ht6.size
  simp only [World.size_alloc] at q56 hf6
  have N3 : w6.ownL 25 14 (.slice a2 rs.length p2) (rs.map Rec.cells) := (N2.alloc _).keep fun k hk => ht6.block k (by have := B2 k hk; simp; omega) (by
    have h2 := B2 k hk
    rintro (h | h | h)
    · omega
    · cases h
    · have := B1 k h; omega)
  have HB6 : Below w.heap.size w w6 := ((World.turned.of_below HB5 (fun _ => False)).alloc _ |>.trans (ht6.mono fun k hk h => h) (fun k hk h => by
    rcases h with h | h | h
    · have := HB5.size; omega
    · cases h
    · have := B1 k h; omega)).below (fun _ _ h => h)
  clear q35
  go_wp2_with fail
  refine (ownRecords_as rs w6 w5.heap.size _ _ _ vb6 _ a2 p2 hbk6 hO6 N3 (fun k hk => ?_) (by omega) (by simp [hn6])).mono ?_
  · have h2 := B2 k hk
    have h3 := Q35.out
    refine ⟨by omega, fun hf => ?_⟩
    rcases hf6 k hf with h | h | h
    · exact foot_nil k h
    · have := B1 k h; omega
    · omega
  rintro e w7 ⟨rfl, vb7, new7, hbk7, hO7, hn7, hm7, hf7, ht7⟩
  have HB7 : Below w.heap.size w w7 := (World.turned.of_below HB6 (fun _ => False) |>.trans ht7 (fun k hk h => by
    have h3 := Q35.out
    have h5 := HB5.size
    rcases h with h | h | h
    · omega
    · rcases hf6 k (.inl h) with h | h | h
      · exact foot_nil k h
      · have := B1 k h; omega
      · omega
    · have := B2 k h; omega)).below (fun _ _ h => h)
  have hl7 : ([] ++ new6 ++ new7).length ≤ 1000000000 := by simp [hn6, hn7]
  have hb7 : ∀ y ∈ [] ++ new6 ++ new7, y.n ≤ 1000000000000 ∧ y.k ≤ 1000000000000 := by
    intro y hy
    rcases List.mem_append.1 hy with hy | hy
    · have := hm6 y (by simpa using hy)
      have h2 : ([] : List Ent).length = 0 := rfl
      omega
    · have := hm7 y hy
      have h2 : ([] ++ new6).length = 4 := by simp [hn6]
      omega
  clear hm6 hm7 hf6 hf7 ht6 ht7 N3 N2 N1 hO6 hbk6 B1 B2 HB5 HB6
  go_wp2_with fail
  refine (lawLooks w7 w5.heap.size _ _ _ _ [] [] [] _ hbk7 (Outs.nil _ _ _ _ _) (by simp) (by intro y hy; cases hy) (Outs.nil _ _ _ _ _) (by simp) (by intro y hy; cases hy) (Outs.nil _ _ _ _ _) (by simp) (by intro y hy; cases hy) hO7 hl7 hb7).mono ?_
  rintro e w8 ⟨rfl, hb8⟩
  go_wp2_with fail
  go_ret
  exact ⟨rfl, HB7.trans (hb8.mono HB7.size)⟩
end Go.Proofs.Ytcbbnmodjnnbeaa
