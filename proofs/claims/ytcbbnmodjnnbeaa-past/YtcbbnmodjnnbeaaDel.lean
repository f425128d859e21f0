/- slices.Delete of the first so many versions; the store's from. -/
import Derived.Test.YtcbbnmodjnnbeaaStore
import Derived.Test.YtcbbnmodjnnbeaaLists2
import Derived.Deep.RegionLaw
import Derived.Outline
set_option linter.unusedSimpArgs false
set_option linter.unusedVariables false
namespace Go
open Go.RowKit
theorem drop_flatten {α : Type} (sz : Nat) : ∀ (cs : List (List α)) (j : Nat), (∀ c ∈ cs, c.length = sz) → cs.flatten.drop (j * sz) = (cs.drop j).flatten
  | cs, 0, _ => by simp
  | [], j + 1, _ => by simp
  | x :: xs, j + 1, h => by
    have hx := h x (by simp)
    rw [List.flatten_cons, List.drop_succ_cons, ← drop_flatten sz xs j (fun c hc => h c (by simp [hc])), show (j + 1) * sz = x.length + j * sz by rw [Nat.succ_mul]; omega, List.drop_length_add_append]
/-- 'append(s[:0], s[j:]...)' at what is owned. -/
theorem run_del_append {P : Program} (w : World) (t ty e : TypeId) (i : TypeInfo) (ht : P.underlying t = some (.slice e)) (hi : P.info? e = some i) (g cap n j c : Nat) (cs : List (List Value)) (hown : w.ownL e i.size (.slice (some ⟨g, 0, none⟩) n cap) cs) (hj : j ≤ n) (h1 : ∀ c ∈ cs, ∀ u ∈ c, u.oneCell' = true) (ad : Addr) (had : j < n → ad = ⟨g, j * i.size, none⟩) :
    ∃ w', (Builtin.append_ #[t, t] ty #[.slice (some ⟨g, 0, none⟩) 0 cap, .slice (some ad) (n - j) c]).run P w = .ok (.slice (some ⟨g, 0, none⟩) (n - j) cap) w' ∧
      w'.ownL e i.size (.slice (some ⟨g, 0, none⟩) (n - j) cap) (cs.drop j) ∧ Grew w w' (.slice (some ⟨g, 0, none⟩) n cap) (.slice (some ⟨g, 0, none⟩) (n - j) cap) ∧ ∃ cur, w'.heap[g]? = some (.cells cur e (0, 0)) ∧ cur.size = cap * i.size ∧ n ≤ cap := by
  have hoff := hown.off0 (g := g) rfl
  have hcells := World.ownsRow.cells hown.1 (g := g) rfl
  obtain ⟨h2, h3⟩ := hown
  rcases h2.2 with ⟨hv, _⟩ | ⟨g', cap', cur, hv, _, hb, r1, r2, r3, r4⟩
  · cases hv
  · injection hv with hv1 hv2 hv3
    injection hv1 with hv1
    injection hv1 with hv1
    subst hv1 hv3
    have hn : n = cs.length := hv2
    subst hn
    have hnl : (cs.drop j).flatten.length = (cs.length - j) * i.size := by rw [flatten_len i.size _ (fun c hc => h3 c (List.mem_of_mem_drop hc)), List.length_drop]
    have hnews : ∀ k u, (cs.drop j).flatten[k]? = some u → w.cell? (ad.add k) = some u := by
      intro k u hk
      have hkl : k < (cs.drop j).flatten.length := (List.getElem?_eq_some_iff.1 hk).1
      rw [had (by
        rcases Nat.lt_or_ge j cs.length with h | h
        · exact h
        · rw [hnl, show cs.length - j = 0 by omega, Nat.zero_mul] at hkl; omega)]
      rw [← drop_flatten i.size cs j h3, List.getElem?_drop] at hk
      have := hcells (j * i.size + k) u hk
      rw [Addr.add_lit] at *
      simpa using this
    have hone : ∀ u ∈ (cs.drop j).flatten, u.oneCell' = true := fun u hu => by
      obtain ⟨c, hc, hu⟩ := List.mem_flatten.1 hu
      exact h1 c (List.mem_of_mem_drop hc) u hu
    obtain ⟨news, hN⟩ : ∃ news, news = (cs.drop j).flatten := ⟨_, rfl⟩
    rw [← hN] at hnl hnews hone
    have hs : Src P i.size t (.slice (some ad) (cs.length - j) c) (cs.length - j) news w := Src.ofSlice w ht _ _ _ _ hnl hnews hone
    have hle : (cs.length - j) * i.size ≤ cap * i.size := Nat.mul_le_mul_right _ (by omega)
    have hroom : cs.length - j ≤ cap := by omega
    have hst := run_storeCells_at P g 0 e news 0 cur w hb (by omega) hs.one
    simp only [Nat.add_zero, Nat.zero_add] at hst
    refine ⟨w.setRow g (cur.toList.take 0 ++ news ++ cur.toList.drop news.length).toArray, by rcases hs.kind with ⟨e', hk⟩ | hk <;> simp [Builtin.append_, run_underlying ht, run_underlying hk, sizeOf, typeInfo, hi, hs.len, hroom, hs.cells, Addr.add_lit, hst], ⟨⟨?_, .inr ⟨g, cap, _, by rw [List.length_drop], Nat.zero_le _, setRow_heap w g cur _ e _ hb, by rw [List.length_drop]; exact hroom, r2, ?_, ?_⟩⟩, fun c hc => h3 c (List.mem_of_mem_drop hc)⟩,
      ⟨⟨rfl, rfl, rfl, by simp [World.setRow], fun k hk hne => setRow_other w g k _ (fun e => hne (by simp [Value.ownBlock, e]))⟩, .inl rfl⟩, _, setRow_heap w g cur _ e _ hb, ?_, r1⟩
    · rw [← hN, hnl, List.length_drop]
    · simp only [List.size_toArray, List.length_append, List.length_take, List.length_drop, Array.length_toList]; omega
    · rw [List.length_drop]
      show List.take _ (List.take 0 cur.toList ++ news ++ _) = _
      rw [List.take_zero, List.nil_append]
      rw [← hN]
      show List.take _ (news ++ _) = _
      rw [← hnl]
      exact List.take_left
    · simp only [List.size_toArray, List.length_append, List.length_take, List.length_drop, Array.length_toList]; omega
theorem step_del {P : Program} {ops : Array Oper} {o : Oper} {a : Act} {w : World} {K : Act → World → Prop} {Q : Exit → Act → World → Prop} {E : Prop} (hgd : o.guard = none) (sl xo : Operand) (t : TypeId)
    (ho : o.op = .call { callee := .builtin .append, args := #[sl, xo], argTypes := #[t, t] }) (e : TypeId) (sz : Nat) (ht : P.underlying t = some (.slice e)) (hinfo : (P.info? e).map (fun i => i.size) = some sz)
    (g cap n j c : Nat) (cs : List (List Value)) (hown : w.ownL e sz (.slice (some ⟨g, 0, none⟩) n cap) cs) (hj : j ≤ n) (h1 : ∀ c ∈ cs, ∀ u ∈ c, u.oneCell' = true) (ad : Addr) (had : j < n → ad = ⟨g, j * sz, none⟩)
    (hv : a.eval sl = .slice (some ⟨g, 0, none⟩) 0 cap) (hx : a.eval xo = .slice (some ad) (n - j) c)
    (h : ∀ w', w'.ownL e sz (.slice (some ⟨g, 0, none⟩) (n - j) cap) (cs.drop j) → Grew w w' (.slice (some ⟨g, 0, none⟩) n cap) (.slice (some ⟨g, 0, none⟩) (n - j) cap) → K (a.put o.dst (.slice (some ⟨g, 0, none⟩) (n - j) cap)) w') :
    if Region.wanted o (yielded ops a.tmps) = true then Oper.wp P o a w K Q else E := by
  have hw : Region.wanted o (yielded ops a.tmps) = true := by simp [Region.wanted, hgd]
  rw [if_pos hw]
  cases hi : P.info? e with
  | none => rw [hi] at hinfo; cases hinfo
  | some i =>
    have hsz : i.size = sz := by rw [hi] at hinfo; simpa using hinfo
    subst hsz
    obtain ⟨w', hr, h2, h3, -⟩ := run_del_append (P := P) w t o.type e i ht hi g cap n j c cs hown hj h1 ad had
    unfold Oper.wp execOp
    simp only [ho, resolve, invoke, builtin, Sem.run_bind, Sem.run_pure, Result.andThen_ok, List.map_toArray, List.map_cons, List.map_nil, hv, hx, hr]
    exact h _ h2 h3
/-- 'clear' of what lies behind what is owned. -/
theorem run_clear_tail {P : Program} (w : World) (t ty e : TypeId) (z : Array Value) (sz : Nat) (ht : P.underlying t = some (.slice e)) (hv : ∀ w, (zeroValue e).run P w = .ok (.agg z) w) (hzs : z.size = sz) (h1 : ∀ u ∈ z.toList, u.oneCell' = true) (g cap m j c : Nat) (cs : List (List Value)) (hown : w.ownL e sz (.slice (some ⟨g, 0, none⟩) m cap) cs) (hj : m + j ≤ cap) (hj0 : 0 < j) :
    ∃ w', (Builtin.clear_ #[t] ty #[.slice (some ⟨g, m * sz, none⟩) j c]).run P w = .ok (.tuple #[]) w' ∧ w'.ownL e sz (.slice (some ⟨g, 0, none⟩) m cap) cs ∧ Grew w w' (.slice (some ⟨g, 0, none⟩) m cap) (.slice (some ⟨g, 0, none⟩) m cap) := by
  obtain ⟨h2, h3⟩ := hown
  rcases h2.2 with ⟨hv', _⟩ | ⟨g', cap', cur, hv', _, hb, r1, r2, r3, r4⟩
  · cases hv'
  · injection hv' with hv1 hv2 hv3
    injection hv1 with hv1
    injection hv1 with hv1
    subst hv1 hv3
    have hm : m = cs.length := hv2
    subst hm
    have hzl : (Builtin.zeroCells z j).toList.length = j * sz := by rw [Array.length_toList, zeroCells_size, hzs]
    have hle : (cs.length + j) * sz ≤ cap * sz := Nat.mul_le_mul_right _ hj
    rw [Nat.add_mul] at hle
    have hone : ∀ u ∈ (Builtin.zeroCells z j).toList, u.oneCell' = true := by
      intro u hu
      simp only [Builtin.zeroCells, Array.toList_map, List.mem_map, Array.toList_range, List.mem_range] at hu
      obtain ⟨k, hk, rfl⟩ := hu
      have hz0 : 0 < z.size := by
        rcases Nat.eq_zero_or_pos z.size with h | h
        · rw [h] at hk; simp at hk
        · exact h
      have hlt : k % z.size < z.size := Nat.mod_lt _ hz0
      rw [getElem!_pos z _ hlt]
      exact h1 _ (by simp)
    have hst := run_storeCells_at P g (cs.length * sz) e (Builtin.zeroCells z j).toList 0 cur w hb (by omega) hone
    simp only [Nat.add_zero] at hst
    obtain ⟨j', rfl⟩ : ∃ j', j = j' + 1 := ⟨j - 1, by omega⟩
    refine ⟨w.setRow g (cur.toList.take (cs.length * sz) ++ (Builtin.zeroCells z (j' + 1)).toList ++ cur.toList.drop (cs.length * sz + (Builtin.zeroCells z (j' + 1)).toList.length)).toArray, by simp [Builtin.clear_, run_underlying ht, hv, Value.cells, hst], ⟨⟨h2.1, .inr ⟨g, cap, _, rfl, Nat.zero_le _, setRow_heap w g cur _ e _ hb, r1, r2, ?_, ?_⟩⟩, h3⟩,
      ⟨⟨rfl, rfl, rfl, by simp [World.setRow], fun k hk hne => setRow_other w g k _ (fun e => hne (by simp [Value.ownBlock, e]))⟩, .inl rfl⟩⟩
    · simp only [List.size_toArray, List.length_append, List.length_take, List.length_drop, Array.length_toList]
      rw [Array.length_toList] at hzl
      omega
    · have hcl : cur.toList.length = cap * sz := by rw [Array.length_toList]; exact r3
      show List.take _ (List.take _ cur.toList ++ _ ++ _) = _
      rw [List.append_assoc, List.take_append_of_le_length (by rw [List.length_take]; omega), List.take_take, Nat.min_self]
      exact r4
theorem wpL_clear {P : Program} {w : World} {ops : Array Oper} {rest : List Oper} {o : Oper} {a : Act} {Q : Exit → Act → World → Prop} (hgd : o.guard = none) (x : Operand) (t : TypeId) (ho : o.op = .call { callee := .builtin .clear, args := #[x], argTypes := #[t] })
    (e : TypeId) (z : Array Value) (sz : Nat) (ht : P.underlying t = some (.slice e)) (hv : ∀ w, (zeroValue e).run P w = .ok (.agg z) w) (hzs : z.size = sz) (h1 : ∀ u ∈ z.toList, u.oneCell' = true) (g cap m j c : Nat) (cs : List (List Value)) (hown : w.ownL e sz (.slice (some ⟨g, 0, none⟩) m cap) cs) (hj : m + j ≤ cap) (hj0 : 0 < j)
    (hx : a.eval x = .slice (some ⟨g, m * sz, none⟩) j c)
    (h : ∀ w', w'.ownL e sz (.slice (some ⟨g, 0, none⟩) m cap) cs → Grew w w' (.slice (some ⟨g, 0, none⟩) m cap) (.slice (some ⟨g, 0, none⟩) m cap) → wpList P ops Q rest (a.put o.dst (.tuple #[])) w') : wpList P ops Q (o :: rest) a w := by
  refine wpList_plain hgd fun _ hK => ?_
  obtain ⟨w', hr, h2, h3⟩ := run_clear_tail (P := P) w t o.type e z sz ht hv hzs h1 g cap m j c cs hown hj hj0
  unfold Oper.wp execOp
  simp only [ho, resolve, invoke, builtin, Sem.run_bind, Sem.run_pure, Result.andThen_ok, List.map_toArray, List.map_cons, List.map_nil, hx, hr]
  exact hK _ _ (h _ h2 h3)
end Go
namespace Go.Proofs.Ytcbbnmodjnnbeaa
open Go.RowKit
theorem Ver.one (v : Ver) : ∀ u ∈ v.cells, u.oneCell' = true := by
  intro u hu
  simp only [Ver.cells, List.mem_cons, List.not_mem_nil, or_false] at hu
  rcases hu with rfl | rfl | rfl <;> rfl
theorem vers_one (vs : List Ver) : ∀ c ∈ vs.map Ver.cells, ∀ u ∈ c, u.oneCell' = true := by
  intro c hc
  obtain ⟨v, _, rfl⟩ := List.mem_map.1 hc
  exact v.one
theorem sizeVer : (Try.prog.info? 158).map (fun i => i.size) = some 3 := by kernel_rfl
set_option maxRecDepth 100000 in
theorem deleteHead (w : World) (g cap j : Nat) (vs : List Ver) (hn : vs.length ≤ 1000000) (hj : j ≤ vs.length) (hcap : vs.length ≤ cap) (hcap2 : cap ≤ maxLen) (ho : w.ownL 158 3 (.slice (some ⟨g, 0, none⟩) vs.length cap) (vs.map Ver.cells)) :
    Calls Try.prog 186 #[.slice (some ⟨g, 0, none⟩) vs.length cap, .int .i64 0, .int .i64 j] w fun e w' => e = .returned (.slice (some ⟨g, 0, none⟩) (vs.length - j) cap) ∧ w'.ownL 158 3 (.slice (some ⟨g, 0, none⟩) (vs.length - j) cap) ((vs.drop j).map Ver.cells) ∧ Grew w w' (.slice (some ⟨g, 0, none⟩) vs.length cap) (.slice (some ⟨g, 0, none⟩) (vs.length - j) cap) := by
  have hji : (j : Int) ≤ vs.length := by omega
  have hci : (vs.length : Int) ≤ cap := by omega
  by_cases h0 : j = 0
  · subst h0
    go_enter Try.func186, Try.ntmps186
    go_wp2_with fail
    go_ret
    exact ⟨rfl, by simpa using ho, Grew.refl _ _⟩
  · obtain ⟨ad, had1, had2⟩ : ∃ ad : Addr, ((if cap = j then (some ⟨g, 0, none⟩ : Option Addr) else some ⟨g, j * 3, none⟩) = some ad) ∧ (j < vs.length → ad = ⟨g, j * 3, none⟩) := by
      by_cases hc : cap = j
      · exact ⟨⟨g, 0, none⟩, by rw [if_pos hc], fun h => by omega⟩
      · exact ⟨⟨g, j * 3, none⟩, by rw [if_neg hc], fun _ => rfl⟩
    have HD : Hid (j < vs.length → ad = ⟨g, j * 3, none⟩) := had2
    have HO : Hid (w.ownL 158 3 (.slice (some ⟨g, 0, none⟩) vs.length cap) (vs.map Ver.cells)) := ho
    have HJ : Hid (j ≤ vs.length) := hj
    have hle : vs.length - j + (vs.length - (vs.length - j)) ≤ cap := by omega
    have hpos : 0 < vs.length - (vs.length - j) := by omega
    have hzo : ∀ u ∈ (#[.int .i64 0, .string ⟨#[]⟩, .bool false] : Array Value).toList, u.oneCell' = true := by
      intro u hu
      simp only [List.mem_cons, List.not_mem_nil, or_false] at hu
      rcases hu with rfl | rfl | rfl <;> rfl
    have hjp : (0 : Int) < j := by omega
    clear had2 ho
    have hjn : (0 == (j : Int)) = false := by rw [beq_eq_false_iff_ne]; omega
    go_enter Try.func186, Try.ntmps186
    go_wp2_with fail
    go_region_law (refine step_del rfl (.tmp 22) (.tmp 25) 160 rfl 158 3 Try.underlying160 sizeVer g cap vs.length j (cap - j) _ HO.out.drew HJ.out (vers_one vs) ad HD.out (by simp [Act.eval, Act.put]) (by simp [Act.eval, Act.put]) ?_; intro w1 ho1 hg1)
    go_wp2_with (refine wpL_clear rfl _ _ rfl 158 #[.int .i64 0, .string ⟨#[]⟩, .bool false] 3 Try.underlying160 (fun w => by kernel_rfl) rfl hzo g cap (vs.length - j) (vs.length - (vs.length - j)) (cap - (vs.length - j)) _ ho1 hle hpos rfl ?_; intro w2 ho2 hg2)
    go_ret
    exact ⟨rfl, by rw [List.map_drop]; exact ho2, ((⟨⟨rfl, rfl, rfl, Nat.le_refl _, fun _ _ _ => rfl⟩, .inl rfl⟩ : Grew w w.drew (.slice (some ⟨g, 0, none⟩) vs.length cap) (.slice (some ⟨g, 0, none⟩) vs.length cap)).trans hg1).trans hg2⟩

/-- How many versions from drops at a floor. -/
def dropN (vs : List Ver) (f : Int) : Nat := if 0 < upToN vs f ∧ (vs[upToN vs f - 1]?.getD Ver.none).gone = false then upToN vs f - 1 else upToN vs f
theorem dropN_le (vs : List Ver) (f : Int) : dropN vs f ≤ vs.length := by
  have := upToN_le vs f
  unfold dropN; split <;> omega
theorem own_parts {w : World} {e : TypeId} {sz n cap g : Nat} {cs : List (List Value)} (h : w.ownL e sz (.slice (some ⟨g, 0, none⟩) n cap) cs) : cs.length ≤ cap ∧ cap ≤ maxLen := by
  rcases h.1.2 with ⟨hv, _⟩ | ⟨g', cap', cur, hv, _, hb, r1, r2, r3, r4⟩
  · cases hv
  · injection hv with _ _ hv3
    subst hv3
    exact ⟨r1, r2⟩
set_option maxRecDepth 100000 in
theorem histFrom (w : World) (g cap : Nat) (vs : List Ver) (f : Int) (hn : vs.length ≤ 1000000) (hs : Asc vs) (ho : w.ownL 158 3 (.slice (some ⟨g, 0, none⟩) vs.length cap) (vs.map Ver.cells)) :
    Calls Try.prog 179 #[.slice (some ⟨g, 0, none⟩) vs.length cap, .int .i64 f] w fun e w' => e = .returned (.slice (some ⟨g, 0, none⟩) (vs.length - dropN vs f) cap) ∧ w'.ownL 158 3 (.slice (some ⟨g, 0, none⟩) (vs.length - dropN vs f) cap) ((vs.drop (dropN vs f)).map Ver.cells) ∧ Grew w w' (.slice (some ⟨g, 0, none⟩) vs.length cap) (.slice (some ⟨g, 0, none⟩) (vs.length - dropN vs f) cap) := by
  have hcc := own_parts ho
  rw [List.length_map] at hcc
  have HC : Hid (vs.length ≤ cap ∧ cap ≤ maxLen) := hcc
  have HN : Hid (vs.length ≤ 1000000) := hn
  have HO : Hid (w.ownL 158 3 (.slice (some ⟨g, 0, none⟩) vs.length cap) (vs.map Ver.cells)) := ho
  have hle := upToN_le vs f
  have HD : Hid (dropN vs f = if 0 < upToN vs f ∧ (vs[upToN vs f - 1]?.getD Ver.none).gone = false then upToN vs f - 1 else upToN vs f) := rfl
  have HDl : Hid (dropN vs f ≤ vs.length) := dropN_le vs f
  have hlt : g < w.heap.size := ho.lt rfl
  have hvl : vs.length ≤ 1000000000000 := by omega
  clear hcc hn ho
  go_enter Try.func179, Try.ntmps179
  go_wp2_with fail
  refine (histUpTo w _ cap vs f hvl HO.out.reads hs).mono ?_
  rintro e w1 ⟨rfl, hb⟩
  have HO1 : Hid (w1.ownL 158 3 (.slice (some ⟨g, 0, none⟩) vs.length cap) (vs.map Ver.cells)) := HO.out.keep fun k hk => hb.block k (HO.out.lt hk)
  have hG1 : Hid (Grew w w1 (.slice (some ⟨g, 0, none⟩) vs.length cap) (.slice (some ⟨g, 0, none⟩) vs.length cap)) := ⟨⟨hb.os, hb.tape, hb.output, hb.size, fun k hk _ => hb.block k hk⟩, .inl rfl⟩
  clear hb
  generalize hk : upToN vs f = k at *
  clear hk
  rcases Nat.eq_zero_or_pos k with h0 | h0
  · subst h0
    have HD0 : Hid (dropN vs f = 0) := by show _ = _; rw [HD.out, if_neg (by omega)]
    go_wp2_with fail
    refine (deleteHead w1 g cap 0 vs HN.out (Nat.zero_le _) HC.out.1 HC.out.2 HO1.out).mono ?_
    rintro e w2 ⟨rfl, ho2, hg2⟩
    go_wp2_with fail
    go_ret
    rw [HD0.out]
    exact ⟨rfl, ho2, hG1.out.trans hg2⟩
  · obtain ⟨m, rfl⟩ : ∃ m, k = m + 1 := ⟨k - 1, by omega⟩
    have hml : m < vs.length := by omega
    have hmi : (m : Int) < vs.length := by omega
    obtain ⟨g', o, he, hg', hv⟩ := ver_at HO1.out.reads hml
    injection he with he
    injection he with he1 he2
    subst he1 he2
    obtain ⟨c0, c1, c2⟩ := Ver.off hv
    rw [Nat.zero_add] at c0 c1 c2
    have HDm : Hid (dropN vs f = if vs[m].gone = false then m else m + 1) := by
      show _ = _
      rw [HD.out]
      simp only [Nat.add_sub_cancel, List.getElem?_eq_getElem hml, Option.getD_some, Nat.zero_lt_succ, true_and]
    generalize vs[m] = v at c0 c1 c2 HDm
    have hpos : (0 : Int) < (m : Int) + 1 := by omega
    clear hv h0
    cases hgone : v.gone
    · rw [hgone] at c2
      have HD0 : Hid (dropN vs f = m) := by show _ = _; rw [HDm.out, if_pos hgone]
      clear hgone
      go_wp2_with fail
      refine (deleteHead w1 g cap m vs HN.out (Nat.le_of_lt hml) HC.out.1 HC.out.2 HO1.out).mono ?_
      rintro e w2 ⟨rfl, ho2, hg2⟩
      go_wp2_with fail
      go_ret
      rw [HD0.out]
      exact ⟨rfl, ho2, hG1.out.trans hg2⟩
    · rw [hgone] at c2
      have HD0 : Hid (dropN vs f = m + 1) := by show _ = _; rw [HDm.out, if_neg (by rw [hgone]; exact Bool.noConfusion)]
      clear hgone
      have hcall := deleteHead w1 g cap (m + 1) vs HN.out hle HC.out.1 HC.out.2 HO1.out
      rw [show (((m + 1 : Nat)) : Int) = (m : Int) + 1 by omega] at hcall
      go_wp2_with fail
      refine hcall.mono ?_
      rintro e w2 ⟨rfl, ho2, hg2⟩
      go_wp2_with fail
      go_ret
      rw [HD0.out]
      exact ⟨rfl, ho2, hG1.out.trans hg2⟩
end Go.Proofs.Ytcbbnmodjnnbeaa
