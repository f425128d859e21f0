/- The walk of the store's keys. -/
import Derived.Test.YtcbbnmodjnnbeaaNewW
import Derived.Test.YtcbbnmodjnnbeaaSortW
import Derived.Sort.KeysCollected
set_option linter.unusedSimpArgs false
set_option linter.unusedVariables false
namespace Go.Proofs.Ytcbbnmodjnnbeaa
open Go.RowKit

def inR (lo hi k : ByteArray) : Prop := lo.data.toList ≤ k.data.toList ∧ (hi.size = 0 ∨ k.data.toList < hi.data.toList)
theorem bl_iff : ∀ x y : List UInt8, Op.bytesLess x y = true ↔ x < y
  | [], [] => by simp [Op.bytesLess]
  | a :: x, [] => by simp [Op.bytesLess]
  | [], _ :: _ => by simp [Op.bytesLess]
  | a :: x, b :: y => by
    have ih := bl_iff x y
    simp [Op.bytesLess, List.cons_lt_cons_iff, ih]
theorem bl_data (x y : ByteArray) : Op.bytesLess x.toList y.toList = true ↔ x.data.toList < y.data.toList := by
  rw [bl_iff, ByteArray.toList_eq, ByteArray.toList_eq]
theorem nil_size (x : ByteArray) : x.toList = [] ↔ x.size = 0 := by
  rw [ByteArray.toList_eq]
  show _ ↔ x.data.size = 0
  rw [← Array.length_toList]
  exact List.length_eq_zero_iff.symm
theorem infoStr : (Try.prog.info? 9).map (fun i => (i.zero, i.size, i.bytes)) = some (some (.string ⟨#[]⟩), 1, 16) := by kernel_rfl
/-- On the way of keys. -/
structure KInv (w wr : World) (D : DataW Value) (lo hi : ByteArray) (left : Lit → Bool) (cnt : Nat) (ks : List ByteArray) (v : Value) : Prop where
  nodup : ks.Nodup
  mem : ∀ k, k ∈ ks ↔ Maps.has D (kl k) = true ∧ left (kl k) = false ∧ inR lo hi k
  own : wr.ownL 9 1 v (ks.map fun k => [.string k])
  new : ∀ x, v.ownBlock = some x → w.heap.size < x
  below : Below w.heap.size w wr
  len : ks.length + cnt ≤ 1000000
  it : w.heap.size < wr.heap.size
theorem KInv.skip {w wr w1 : World} {D : DataW Value} {lo hi key : ByteArray} {left : Lit → Bool} {cnt cnt1 : Nat} {ks : List ByteArray} {v : Value} (h : KInv w wr D lo hi left cnt ks v) (hg : wr.grownBy w1 (some w.heap.size)) (hlx : left (kl key) = true) (hlt : cnt1 < cnt) (hr : ¬ inR lo hi key) :
    KInv w w1 D lo hi (fun z => left z && !z.sameKey (kl key)) cnt1 ks v := by
  refine ⟨h.nodup, fun k => ?_, h.own.keep fun x hx => hg.block x (h.own.lt hx) (fun e => by have := h.new x hx; injection e with e; omega), h.new, Below.grown h.below hg h.below.size (fun k e => by injection e with e; omega), by have := h.len; omega, by have := hg.size; have := h.it; omega⟩
  rw [h.mem]
  by_cases hk : k = key
  · subst hk
    exact ⟨fun ⟨_, h2, _⟩ => (by rw [hlx] at h2; cases h2), fun ⟨_, _, h3⟩ => absurd h3 hr⟩
  · have e : (kl k).sameKey (kl key) = false := Maps.sameKey_ne (fun e => hk (kl_inj e))
    simp [e]
theorem KInv.add {w wr w1 W w3 : World} {D : DataW Value} {lo hi key : ByteArray} {left : Lit → Bool} {cnt cnt1 : Nat} {ks : List ByteArray} {v v' : Value} (h : KInv w wr D lo hi left cnt ks v) (hg : wr.grownBy w1 (some w.heap.size)) (hW : Below w1.heap.size w1 W) (hlx : left (kl key) = true) (hlt : cnt1 < cnt) (hr : inR lo hi key) (hhas : Maps.has D (kl key) = true)
    (ho : w3.ownL 9 1 v' ((ks.map fun k => [.string k]) ++ [#[Value.string key].toList])) (hg3 : Grew W w3 v v') : KInv w w3 D lo hi (fun z => left z && !z.sameKey (kl key)) cnt1 (ks ++ [key]) v' := by
  have hnot : key ∉ ks := fun hm => by have := ((h.mem key).1 hm).2.1; rw [hlx] at this; cases this
  have hb1 : Below w.heap.size w w1 := Below.grown h.below hg h.below.size (fun k e => by injection e with e; omega)
  have hbW : Below w.heap.size w W := hb1.trans (hW.mono hb1.size)
  have hws := h.below.size
  have hgs := hg.size
  refine ⟨List.nodup_append.2 ⟨h.nodup, by simp, fun a ha b hb => by simp at hb; subst hb; exact fun e => hnot (e ▸ ha)⟩, fun k => ?_, by rw [List.map_append]; exact ho, fun x hx => ?_, ?_, by have := h.len; simp; omega, by have := hW.size; have := hg3.g.size; have := h.it; omega⟩
  · rw [List.mem_append, h.mem]
    by_cases hk : k = key
    · subst hk
      have e : (kl k).sameKey (kl k) = true := WideAt.sameKey_self (kl_key k)
      simp [e, hhas, hr]
    · have e : (kl k).sameKey (kl key) = false := Maps.sameKey_ne (fun e => hk (kl_inj e))
      simp [e, hk]
  · rcases hg3.own with h1 | h1
    · exact h.new x (h1 ▸ hx)
    · have := h1 x hx; have := hW.size; have := h.it
      omega
  · refine hbW.trans ⟨hg3.g.os, hg3.g.tape, hg3.g.output, hg3.g.size, fun k hk => hg3.g.block k (by have := hbW.size; omega) fun e => ?_⟩
    have := h.new k e.symm; omega
set_option maxRecDepth 100000 in
set_option maxHeartbeats 1000000 in
theorem storeKeys (w : World) (p b : Nat) (D : DataW Value) (s : St) (h : StoreAt w p b D s) (lo hi : ByteArray) :
    Calls Try.prog 73 #[.pointer (some ⟨p, 0, none⟩), .string lo, .string hi] w fun e w' => ∃ (ks : List ByteArray) (v : Value), e = .returned v ∧ w'.ownL 9 1 v (ks.map fun k => [.string k]) ∧ (∀ x, v.ownBlock = some x → w.heap.size < x) ∧ (ks.Pairwise fun a b => a.data.toList < b.data.toList) ∧ (∀ k, k ∈ ks ↔ s.vers k ≠ [] ∧ inR lo hi k) ∧ Below w.heap.size w w' ∧ ks.length ≤ 1000000 := by
  obtain ⟨c0, c1, c2, cf⟩ := st_cells h.blk
  have hp : p < w.heap.size := (Array.getElem?_eq_some_iff.1 h.blk).1
  have H : Hid (StoreAt w p b D s) := h
  have hown : w.ownsMap Try.prog 9 rawElem b (Maps.size D) D := h.map.map
  clear h
  go_enter Try.func73, Try.ntmps73
  go_wp2_with (at_range; refine Held.out ?_)
  unfold Held
  refine wpList_range_own _ rfl _ 136 rfl 9 160 strKeyed Try.underlying136 rawElem b (Maps.size D) D rfl hown ?_
  intro w0 hrg0 hg0 hs0
  go_frame
  go_wp2_with fail
  have HI0 : Hid (KInv w w0 D lo hi (Maps.has D) (Maps.size D) [] nilS) := by
    refine ⟨List.nodup_nil, fun k => ?_, World.ownL.nil _ _ _, (fun x hx => by cases hx), ?_, by have := H.out.sz; have := H.out.good.rev; simp; omega, by omega⟩
    · simp only [List.not_mem_nil, false_iff]
      rintro ⟨h1, h2, _⟩
      rw [h1] at h2; cases h2
    · exact Below.grown (Below.refl _ _) hg0 (Nat.le_refl _) (by simp)
  have hpbf := H.out.pb
  have hblt : b < w.heap.size := hown.lt
  clear hown
  go_loopw [7] (fun v wr => ∃ left cnt ks, wr.ranges Try.prog 9 rawElem b w.heap.size (Maps.size D) D left cnt ∧ Hid (KInv w wr D lo hi left cnt ks v)) (fun _ wr => wr.rangeLeft b w.heap.size)
  case atStart => exact ⟨_, _, _, hrg0, HI0⟩
  case round =>
    clear HI0
    obtain ⟨left, cnt, ks, hrg, HI⟩ := hrel
    go_wp2_with (at_next; refine Held.out ?_)
    unfold Held
    refine wpList_next_ranges (α := ByteArray) (β := Option Addr × Nat × Nat) _ rfl _ rfl 9 strKeyed rawElem .string (fun c => .slice c.1 c.2.1 c.2.2) (fun key l h => by obtain ⟨x, h1, _⟩ := str_inv key l h; exact ⟨x, h1⟩) (fun v y h => by obtain ⟨_, a, n, c, h1⟩ := rawElem_inv h; exact ⟨(a, n, c), h1⟩) b w.heap.size _ _ _ _ rfl hrg ?_ ?_
    · intro hc0 hl0
      go_frame
      go_wp2_with fail
      refine (sortOwn wr _ ks HI.out.own (by have := HI.out.len; omega)).mono ?_
      rintro e w2 ⟨rfl, ks', hp, hso, ho2, hg2⟩
      have HF : Hid (w2.ownL 9 1 u7 (ks'.map fun k => [.string k]) ∧ (∀ x, u7.ownBlock = some x → w.heap.size < x) ∧ (ks'.Pairwise fun a b => a.data.toList < b.data.toList) ∧ (∀ k, k ∈ ks' ↔ s.vers k ≠ [] ∧ inR lo hi k) ∧ Below w.heap.size w w2 ∧ ks'.length ≤ 1000000) := by
        have hI := HI.out
        refine ⟨ho2, hI.new, ?_, fun k => ?_, hI.below.trans ⟨hg2.g.os, hg2.g.tape, hg2.g.output, hg2.g.size, fun k hk => hg2.g.block k (by have := hI.below.size; omega) fun e => by have := hI.new k e.symm; omega⟩, by rw [hp.length_eq]; have := hI.len; omega⟩
        · have hnd : ks'.Nodup := hp.nodup_iff.2 hI.nodup
          exact (hso.and hnd).imp fun {a c} ⟨h1, h2⟩ => Classical.byContradiction fun hn => h2 (bytes_ext' (List.le_antisymm h1 hn))
        · rw [hp.mem_iff, hI.mem, ← H.out.map.has]
          simp [hl0]
      clear hso ho2 hg2 hp HI
      go_wp2_with fail
      exact bodyPost_ret (v := u7) (by simp [results, Try.results73, go_sem]) rfl ⟨ks', u7, rfl, HF.out⟩
    · intro key c l y w1 cnt1 hkey hlx hv hat hrg1 hlt hg1 hs1 hen
      obtain ⟨k0, e0, rfl, _⟩ := str_inv _ _ hkey
      injection e0 with e0
      subst e0
      have hhas : Maps.has D (kl key) = true := Maps.has_true_of_atKey hat
      have HH : Hid (Maps.has D (kl key) = true ∧ left (kl key) = true ∧ cnt1 < cnt ∧ wr.grownBy w1 (some w.heap.size)) := ⟨hhas, hlx, hlt, hg1⟩
      have HR1 : Hid (w1.ranges Try.prog 9 rawElem b w.heap.size (Maps.size D) D (fun z => left z && !z.sameKey (kl key)) cnt1) := hrg1
      have HL : Hid (wr.rangeLeft b w.heap.size = cnt) := hrg.left_eq
      clear hkey hv hat hhas hlx
      by_cases hb1 : Op.bytesLess key.toList lo.toList = true
      · have hnr : Hid (¬ inR lo hi key) := fun hr => by
          exact hr.1 ((bl_data _ _).1 hb1)
        clear hrg hrg1
        go_frame
        go_wp2_with fail
        exact ⟨⟨_, cnt1, ks, HR1.out, HI.out.skip HH.out.2.2.2 HH.out.2.1 HH.out.2.2.1 hnr.out⟩, by rw [HR1.out.left_eq, HL.out]; exact HH.out.2.2.1⟩
      · have hlo : lo.data.toList ≤ key.data.toList := fun h => hb1 ((bl_data _ _).2 h)
        have hI1 : KInv w w1 D lo hi left cnt ks u7 := by
          have hI := HI.out
          exact ⟨hI.nodup, hI.mem, hI.own.keep fun x hx => hg1.block x (hI.own.lt hx) (fun e => by have := hI.new x hx; injection e with e; omega), hI.new, Below.grown hI.below hg1 hI.below.size (fun k e => by injection e with e; omega), hI.len, by have := hI.it; omega⟩
        have hlen : (ks.map fun k => [Value.string k]).length = ks.length := List.length_map _
        have hl1 : (ks.map fun k => [Value.string k]).length + 1 ≤ maxLen := by rw [hlen]; have := hI1.len; unfold maxLen; omega
        have hl2 : ((ks.map fun k => [Value.string k]).length + 1) * 16 ≤ 140737488355328 := by rw [hlen]; have := hI1.len; omega
        have hone : ∀ u ∈ (#[Value.string key] : Array Value).toList, u.oneCell' = true := fun u hu => by
          rw [List.mem_singleton.1 hu]; rfl
        have how : (w1.alloc (.cells #[Value.string key] 9)).ownL 9 1 u7 (ks.map fun k => [.string k]) := hI1.own.alloc _
        have hrow : ∀ x, u7.ownBlock = some x → w.heap.size < x := hI1.new
        have HRA : Hid (∀ w3 v', Grew (w1.alloc (.cells #[Value.string key] 9)) w3 u7 v' → w3.ranges Try.prog 9 rawElem b w.heap.size (Maps.size D) D (fun z => left z && !z.sameKey (kl key)) cnt1) := fun w3 v' hg3 => (hrg1.alloc _).kept hg3.g (fun e => by have := hrow b e.symm; omega) (fun e => by have := hrow _ e.symm; omega)
        have hsz1 : w1.heap.size = wr.heap.size := hs1
        clear hrg hrg1 hI1
        by_cases hb2 : hi.toList = []
        · have HIN : Hid (inR lo hi key) := ⟨hlo, .inl ((nil_size _).1 hb2)⟩
          go_frame
          go_wp2_with (at_builtin; refine Held.out ?_)
          unfold Held
          refine wpL_new rfl _ _ 155 rfl 9 1 16 _ Try.underlying155 infoStr rfl (by decide) u7 (ks.map fun k => [.string k]) rfl how #[Value.string key] w1.heap.size (by rw [hsz1]; rfl) (heap_alloc_new w1 _) rfl hone hl1 hl2 ?_
          intro a' cap' w3 ho3 hg3 _
          have HK : Hid (KInv w w3 D lo hi (fun z => left z && !z.sameKey (kl key)) cnt1 (ks ++ [key]) (.slice a' ((ks.map fun k => [Value.string k]).length + 1) cap')) := HI.out.add HH.out.2.2.2 (Below.alloc (Below.refl _ _) (Nat.le_refl _) _) HH.out.2.1 HH.out.2.2.1 HIN.out HH.out.1 ho3 hg3
          have HR3 := HRA.out w3 _ hg3
          clear ho3 hg3 how
          go_frame
          go_wp2_with fail
          exact ⟨⟨_, cnt1, ks ++ [key], HR3, HK⟩, by rw [HR3.left_eq, HL.out]; exact HH.out.2.2.1⟩
        · by_cases hb3 : Op.bytesLess key.toList hi.toList = true
          · have HIN : Hid (inR lo hi key) := ⟨hlo, .inr ((bl_data _ _).1 hb3)⟩
            go_frame
            go_wp2_with (at_builtin; refine Held.out ?_)
            unfold Held
            refine wpL_new rfl _ _ 155 rfl 9 1 16 _ Try.underlying155 infoStr rfl (by decide) u7 (ks.map fun k => [.string k]) rfl how #[Value.string key] w1.heap.size (by rw [hsz1]; rfl) (heap_alloc_new w1 _) rfl hone hl1 hl2 ?_
            intro a' cap' w3 ho3 hg3 _
            have HK : Hid (KInv w w3 D lo hi (fun z => left z && !z.sameKey (kl key)) cnt1 (ks ++ [key]) (.slice a' ((ks.map fun k => [Value.string k]).length + 1) cap')) := HI.out.add HH.out.2.2.2 (Below.alloc (Below.refl _ _) (Nat.le_refl _) _) HH.out.2.1 HH.out.2.2.1 HIN.out HH.out.1 ho3 hg3
            have HR3 := HRA.out w3 _ hg3
            clear ho3 hg3 how
            go_frame
            go_wp2_with fail
            exact ⟨⟨_, cnt1, ks ++ [key], HR3, HK⟩, by rw [HR3.left_eq, HL.out]; exact HH.out.2.2.1⟩
          · have hnr : Hid (¬ inR lo hi key) := fun hr => by
              rcases hr.2 with h1 | h1
              · exact hb2 ((nil_size _).2 h1)
              · exact hb3 ((bl_data _ _).2 h1)
            clear how
            have hb4 : (hi.toList == []) = false := by rw [beq_eq_false_iff_ne]; exact hb2
            have hb5 : Op.bytesLess key.toList hi.toList = false := Bool.not_eq_true _ ▸ hb3
            go_frame
            go_wp2_with fail
            all_goals first
              | exact absurd (by assumption) hb2
              | exact ⟨⟨_, cnt1, ks, HR1.out, HI.out.skip HH.out.2.2.2 HH.out.2.1 HH.out.2.2.1 hnr.out⟩, by rw [HR1.out.left_eq, HL.out]; exact HH.out.2.2.1⟩
end Go.Proofs.Ytcbbnmodjnnbeaa
