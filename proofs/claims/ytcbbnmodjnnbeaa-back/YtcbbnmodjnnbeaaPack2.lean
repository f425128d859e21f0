/- Numbers and texts as bytes, back and forth. -/
import Derived.Test.YtcbbnmodjnnbeaaReader
import Derived.Test.YtcbbnmodjnnbeaaExt
import Derived.Deep.AppendSrc
import Derived.Deep.Upon
import Derived.Lib.AppendStr
import Derived.Test.YtcbbnmodjnnbeaaEncRef
set_option linter.unusedSimpArgs false
set_option linter.unusedVariables false
namespace Go.Proofs.Ytcbbnmodjnnbeaa

theorem be1 (n : Nat) (h : n < 256) : be 1 n = [UInt8.ofNat n] := by simp [be, Nat.mod_eq_of_lt h]
theorem be3 (n : Nat) (h : n < 16777216) : be 3 n = [UInt8.ofNat (n / 65536), UInt8.ofNat (n / 256 % 256), UInt8.ofNat (n % 256)] := by
  simp [be, Nat.mod_eq_of_lt (show n / 65536 < 256 by omega)]
theorem toNat_of (n : Nat) (h : n < 256) : (UInt8.ofNat n).toNat = n := UInt8.toNat_ofNat_of_lt' (by simpa [UInt8.size] using h)
theorem of_toNat (c : UInt8) : UInt8.ofNat c.toNat = c := by simp
theorem rd3 (a b c : UInt8) : rd [a, b, c] 0 3 = a.toNat * 65536 + b.toNat * 256 + c.toNat := by simp [rd]; omega

-- forward
theorem byteL_fwd (n : Nat) (l : List UInt8) (h : n < 256) : byteL (be 1 n ++ l) false = (n, l, false) := by
  rw [be1 n h]; simp [byteL, takeL, toNat_of n h]
theorem numL_fwd (n : Nat) (l : List UInt8) (h : n < 16777216) : numL (be 3 n ++ l) false = (n, l, false) := by
  rw [be3 n h]
  have e : takeL ([UInt8.ofNat (n / 65536), UInt8.ofNat (n / 256 % 256), UInt8.ofNat (n % 256)] ++ l) false 3 = ([UInt8.ofNat (n / 65536), UInt8.ofNat (n / 256 % 256), UInt8.ofNat (n % 256)], l, false) := by
    simp [takeL]
  unfold numL
  rw [e, rd3, toNat_of _ (by omega), toNat_of _ (by omega), toNat_of _ (by omega)]
  have : n / 65536 * 65536 + n / 256 % 256 * 256 + n % 256 = n := by omega
  simp [this]
theorem takeL_fwd (s l : List UInt8) : takeL (s ++ l) false s.length = (s, l, false) := by
  simp [takeL]
theorem textL_fwd (s l : List UInt8) (h : s.length < 256) : textL (be 1 s.length ++ (s ++ l)) false = (s, l, false) := by
  unfold textL; rw [byteL_fwd _ _ h]; exact takeL_fwd s l
theorem blockL_fwd (s l : List UInt8) (h : s.length < 16777216) : blockL (be 3 s.length ++ (s ++ l)) false = (s, l, false) := by
  unfold blockL; rw [numL_fwd _ _ h]; exact takeL_fwd s l

-- back
theorem takeL_back (l : List UInt8) (b : Bool) (n : Nat) (h : (takeL l b n).2.2 = false) : b = false ∧ ∃ s l', s.length = n ∧ l = s ++ l' ∧ takeL l b n = (s, l', false) := by
  unfold takeL at h
  by_cases hn : l.length < n
  · rw [if_pos hn] at h; cases h
  · rw [if_neg hn] at h
    simp only at h
    subst h
    exact ⟨rfl, l.take n, l.drop n, by simp; omega, (List.take_append_drop n l).symm, by unfold takeL; rw [if_neg hn]⟩
theorem byteL_back (l : List UInt8) (b : Bool) (h : (byteL l b).2.2 = false) : b = false ∧ ∃ n l', n < 256 ∧ l = be 1 n ++ l' ∧ byteL l b = (n, l', false) := by
  have h1 : (takeL l b 1).2.2 = false := by unfold byteL at h; split at h <;> exact h
  obtain ⟨hb, s, l', hs, hl, ht⟩ := takeL_back l b 1 h1
  match s, hs with
  | [c], _ =>
    refine ⟨hb, c.toNat, l', by have := c.toNat_lt; omega, by rw [be1 _ (by have := c.toNat_lt; omega), of_toNat]; exact hl, ?_⟩
    unfold byteL; rw [ht]; simp
theorem numL_back (l : List UInt8) (b : Bool) (h : (numL l b).2.2 = false) : b = false ∧ ∃ n l', n < 16777216 ∧ l = be 3 n ++ l' ∧ numL l b = (n, l', false) := by
  have h1 : (takeL l b 3).2.2 = false := by unfold numL at h; split at h <;> exact h
  obtain ⟨hb, s, l', hs, hl, ht⟩ := takeL_back l b 3 h1
  match s, hs with
  | [x, y, z], _ =>
    have hx := x.toNat_lt
    have hy := y.toNat_lt
    have hz := z.toNat_lt
    refine ⟨hb, rd [x, y, z] 0 3, l', by rw [rd3]; omega, ?_, ?_⟩
    · rw [be3 _ (by rw [rd3]; omega), rd3, show (x.toNat * 65536 + y.toNat * 256 + z.toNat) / 65536 = x.toNat by omega, show (x.toNat * 65536 + y.toNat * 256 + z.toNat) / 256 % 256 = y.toNat by omega,
        show (x.toNat * 65536 + y.toNat * 256 + z.toNat) % 256 = z.toNat by omega, of_toNat, of_toNat, of_toNat]
      exact hl
    · unfold numL; rw [ht]; simp
theorem textL_back (l : List UInt8) (b : Bool) (h : (textL l b).2.2 = false) : b = false ∧ ∃ s l', s.length < 256 ∧ l = be 1 s.length ++ (s ++ l') ∧ textL l b = (s, l', false) := by
  unfold textL at h
  obtain ⟨hb, s, l', hs, hl, ht⟩ := takeL_back _ _ _ h
  obtain ⟨hb2, n, l2, hn, hl2, hbt⟩ := byteL_back l b hb
  rw [hbt] at hl ht hs
  simp only at hl hs
  subst hs
  exact ⟨hb2, s, l', hn, by rw [hl2, hl], by unfold textL; rw [hbt]; exact ht⟩
theorem blockL_back (l : List UInt8) (b : Bool) (h : (blockL l b).2.2 = false) : b = false ∧ ∃ s l', s.length < 16777216 ∧ l = be 3 s.length ++ (s ++ l') ∧ blockL l b = (s, l', false) := by
  unfold blockL at h
  obtain ⟨hb, s, l', hs, hl, ht⟩ := takeL_back _ _ _ h
  obtain ⟨hb2, n, l2, hn, hl2, hbt⟩ := numL_back l b hb
  rw [hbt] at hl ht hs
  simp only at hl hs
  subst hs
  exact ⟨hb2, s, l', hn, by rw [hl2, hl], by unfold blockL; rw [hbt]; exact ht⟩

end Go.Proofs.Ytcbbnmodjnnbeaa
/- Slices that a call itself grows by append: what they hold, and what stays as it was. -/
set_option linter.unusedSimpArgs false
set_option linter.unusedVariables false
namespace Go
open Go.RowKit

/-- v has become v': v's own row may have been written, or v' lies in new memory; all else that was there is as it was. -/
structure Grew (w w' : World) (v v' : Value) : Prop where
  g : w.grownBy w' v.ownBlock
  own : v'.ownBlock = v.ownBlock ∨ ∀ k, v'.ownBlock = some k → w.heap.size ≤ k
theorem Grew.refl (w : World) (v : Value) : Grew w w v v := ⟨⟨rfl, rfl, rfl, Nat.le_refl _, fun _ _ _ => rfl⟩, .inl rfl⟩
theorem Grew.trans {w w1 w2 : World} {v v1 v2 : Value} (h : Grew w w1 v v1) (h' : Grew w1 w2 v1 v2) : Grew w w2 v v2 := by
  have hs := h.g.size
  refine ⟨⟨h'.g.os.trans h.g.os, h'.g.tape.trans h.g.tape, h'.g.output.trans h.g.output, Nat.le_trans hs h'.g.size, fun k hk hne => ?_⟩, ?_⟩
  · rw [h'.g.block k (by omega) ?_, h.g.block k hk hne]
    rcases h.own with ho | ho
    · rw [ho]; exact hne
    · intro hv; have := ho k hv.symm; omega
  · rcases h'.own with ho | ho
    · rcases h.own with h1 | h1
      · exact .inl (ho.trans h1)
      · exact .inr fun k hk => h1 k (ho ▸ hk)
    · exact .inr fun k hk => Nat.le_trans hs (ho k hk)
theorem Grew.alloc {w w1 : World} {v v1 : Value} (h : Grew w w1 v v1) (o : Obj) : Grew w (w1.alloc o) v v1 :=
  ⟨⟨h.g.os, h.g.tape, h.g.output, by simp; exact Nat.le_succ_of_le h.g.size, fun k hk hne => by rw [Below.heap_alloc _ _ _ (by have := h.g.size; omega), h.g.block k hk hne]⟩, h.own⟩
theorem Grew.below {w w1 : World} {v v1 : Value} (h : Grew w w1 v v1) (hv : ∀ k, v.ownBlock = some k → w.heap.size ≤ k) : Below w.heap.size w w1 :=
  ⟨h.g.os, h.g.tape, h.g.output, h.g.size, fun k hk => h.g.block k hk fun he => by have := hv k he.symm; omega⟩
theorem Grew.keep {w w1 : World} {v v1 : Value} (h : Grew w w1 v v1) {k : Nat} (hk : k < w.heap.size) (hne : v.ownBlock ≠ some k) : w1.heap[k]? = w.heap[k]? := h.g.block k hk fun he => hne he.symm
theorem ownsRow_base {w : World} {base base' : Nat} {e : TypeId} {size : Nat} {v : Value} {n : Nat} {xs : List Value} (h : w.ownsRow base e size v n xs) (hb : ∀ k, v.ownBlock = some k → base' ≤ k) : w.ownsRow base' e size v n xs := by
  refine ⟨h.1, ?_⟩
  rcases h.2 with h2 | ⟨g, cap, cur, hv, _, r⟩
  · exact .inl h2
  · exact .inr ⟨g, cap, cur, hv, hb g (by rw [hv]; rfl), r⟩

theorem zeroCells_size (z : Array Value) (n : Nat) : (Builtin.zeroCells z n).size = n * z.size := by simp [Builtin.zeroCells]

/-- append, out of whatever source, to what is owned. -/
theorem run_append_grew {P : Program} (w : World) (base : Nat) (t tx ty e : TypeId) (i : TypeInfo) (z : Value) (ht : P.underlying t = some (.slice e)) (hi : P.info? e = some i) (hz : i.zero = some z)
    (hzs : z.cells.size = i.size) (hsz : 0 < i.size) (v : Value) (n : Nat) (xs : List Value) (hown : w.ownsRow base e i.size v n xs)
    (x : Value) (m : Nat) (news : List Value) (hs : Src P i.size tx x m news w) (h63 : n + m ≤ maxLen) (hbytes : (n + m) * i.bytes ≤ 140737488355328) (hbase : base ≤ w.heap.size) :
    ∃ v' w', (Builtin.append_ #[t, tx] ty #[v, x]).run P w = .ok v' w' ∧ w'.ownsRow base e i.size v' (n + m) (xs ++ news) ∧ Grew w w' v v' := by
  have hsmall : n + m ≤ 9223372036854775807 := by simp only [maxLen] at h63; omega
  have hl := hs.newsLen
  have hlen : (xs ++ news).length = (n + m) * i.size := by rw [List.length_append, hown.1, hl, Nat.add_mul]
  have grown : ∀ (old : Nat), old < n + m →
      (w.drew.alloc (.cells ((xs ++ news).toArray ++ Builtin.zeroCells z.cells (grownCap w (n + m) old e - (n + m))) e)).ownsRow base e i.size
        (.slice (some ⟨w.heap.size, 0, none⟩) (n + m) (grownCap w (n + m) old e)) (n + m) (xs ++ news) := by
    intro old ho
    have hge := grownCap_ge w (n + m) old e
    have hcm : grownCap w (n + m) old e ≤ maxLen := grownCap_le_maxLen w (n + m) old e h63
    refine ⟨hlen, .inr ⟨w.heap.size, _, _, rfl, hbase, heap_alloc_new w.drew _, hge, hcm, ?_, ?_⟩⟩
    · simp only [Array.size_append, List.size_toArray, zeroCells_size, hzs, hlen, ← Nat.add_mul]
      congr 1
      omega
    · rw [Array.toList_append, ← hlen]
      exact List.take_left
  have gr : ∀ (o : Obj) (v' : Value), v'.ownBlock = some w.heap.size → Grew w (w.drew.alloc o) v v' := fun o v' hv' =>
    ⟨⟨rfl, rfl, rfl, by simp, fun k hk _ => Below.heap_alloc w.drew o k hk⟩, .inr fun k hk => by rw [hv'] at hk; cases hk; exact Nat.le_refl _⟩
  rcases hown.2 with ⟨rfl, rfl⟩ | ⟨g, cap, cur, rfl, hbg, hg, hnc, hcm, hcs, htake⟩
  · have hx : xs = [] := List.eq_nil_of_length_eq_zero (by simpa using hown.1)
    subst hx
    by_cases hm : m = 0
    · subst hm
      have hn : news = [] := List.eq_nil_of_length_eq_zero (by simpa using hl)
      subst hn
      exact ⟨.slice none 0 0, w, run_append_nothing w t tx ty e i ht hi none 0 0 (Nat.le_refl _) x hs, World.ownsRow_nil w base e i.size, Grew.refl _ _⟩
    · have hr := run_append_grow_src (P := P) w t tx ty e i z ht hi hz none 0 0 [] (by simp [Builtin.firstCells]) x m news hs (by omega) (by omega) (growslice_fits (by omega) (by simpa using hbytes))
      refine ⟨_, _, hr, ?_, gr _ _ rfl⟩
      have := grown 0 (by omega)
      simpa using this
  · by_cases hroom : n + m ≤ cap
    · have hfit : n * i.size + news.length ≤ cur.size := by rw [hl, hcs, ← Nat.add_mul]; exact Nat.mul_le_mul_right _ hroom
      have hst := run_storeCells_at P g (n * i.size) e news 0 cur w hg (by simpa using hfit) hs.one
      simp only [Nat.add_zero] at hst
      have hr : (Builtin.append_ #[t, tx] ty #[.slice (some ⟨g, 0, none⟩) n cap, x]).run P w = .ok (.slice (some ⟨g, 0, none⟩) (n + m) cap) (w.setRow g (cur.toList.take (n * i.size) ++ news ++ cur.toList.drop (n * i.size + news.length)).toArray) := by
        rcases hs.kind with ⟨e', hk⟩ | hk <;> simp [Builtin.append_, run_underlying ht, run_underlying hk, sizeOf, typeInfo, hi, hs.len, hroom, hs.cells, Addr.add_lit, hst]
      refine ⟨_, _, hr, ⟨hlen, .inr ⟨g, cap, _, rfl, hbg, setRow_heap w g cur _ e _ hg, hroom, hcm, ?_, ?_⟩⟩, ⟨⟨rfl, rfl, rfl, by simp, fun k hk hne => setRow_other w g k _ (fun e => hne (by simp [Value.ownBlock, e]))⟩, .inl rfl⟩⟩
      · simp only [List.size_toArray, List.length_append, List.length_take, List.length_drop, Array.length_toList]
        omega
      · rw [htake, ← hlen]
        exact List.take_left
    · have holds : ∀ j u, xs[j]? = some u → w.cell? ((⟨g, 0, none⟩ : Addr).add j) = some u := hown.cells (g := g) rfl
      have hr := run_append_grow_src (P := P) w t tx ty e i z ht hi hz (some ⟨g, 0, none⟩) n cap xs (run_firstCells_some w.drew i.size n ⟨g, 0, none⟩ n cap xs hown.1 (by simpa using holds)) x m news hs (by omega) (by omega) (growslice_fits (by omega) hbytes)
      exact ⟨_, _, hr, grown cap (by omega), gr _ _ rfl⟩

theorem wpList_append_grew {P : Program} {w : World} {ops : Array Oper} {rest : List Oper} {o : Oper} {a : Act} {Q : Exit → Act → World → Prop} (hgd : o.guard = none) (sl xo : Operand) (t tx : TypeId)
    (ho : o.op = .call { callee := .builtin .append, args := #[sl, xo], argTypes := #[t, tx] })
    (base : Nat) (e : TypeId) (i : TypeInfo) (z : Value) (ht : P.underlying t = some (.slice e)) (hi : P.info? e = some i) (hz : i.zero = some z)
    (hzs : z.cells.size = i.size) (hsz : 0 < i.size) (v : Value) (n : Nat) (xs : List Value) (hv : a.eval sl = v) (hown : w.ownsRow base e i.size v n xs)
    (x : Value) (m : Nat) (news : List Value) (hx : a.eval xo = x) (hs : Src P i.size tx x m news w) (h63 : n + m ≤ maxLen) (hbytes : (n + m) * i.bytes ≤ 140737488355328) (hbase : base ≤ w.heap.size)
    (h : ∀ v' w', w'.ownsRow base e i.size v' (n + m) (xs ++ news) → Grew w w' v v' → wpList P ops Q rest (a.put o.dst v') w') : wpList P ops Q (o :: rest) a w := by
  refine wpList_plain hgd fun K hK => ?_
  obtain ⟨v', w', hr, h2, h3⟩ := run_append_grew (P := P) w base t tx o.type e i z ht hi hz hzs hsz v n xs hown x m news hs h63 hbytes hbase
  unfold Oper.wp execOp
  simp only [ho, resolve, invoke, builtin, Sem.run_bind, Sem.run_pure, Result.andThen_ok, List.map_toArray, List.map_cons, List.map_nil, hv, hx, hr]
  exact hK _ _ (h v' w' h2 h3)
end Go
/- The program's own bytes: numbers, texts and blocks put behind a slice. -/
set_option linter.unusedSimpArgs false
set_option linter.unusedVariables false
namespace Go.Proofs.Ytcbbnmodjnnbeaa
open Go.RowKit

def byteV (c : UInt8) : Value := .int .u8 c.toNat
def OwnB (w : World) (base : Nat) (v : Value) (l : List UInt8) : Prop := w.ownsRow base 5 1 v l.length (l.map byteV)
theorem infoB : (Try.prog.info? 5).map (fun i => (i.zero, i.size, i.bytes)) = some (some (.int .u8 0), 1, 1) := by kernel_rfl
theorem OwnB.nil (w : World) (base : Nat) : OwnB w base (.slice none 0 0) [] := World.ownsRow_nil w base _ 1
theorem OwnB.lt {w : World} {base : Nat} {v : Value} {l : List UInt8} (h : OwnB w base v l) {k : Nat} (hk : v.ownBlock = some k) : base ≤ k ∧ k < w.heap.size := World.ownsRow.lt h k hk
theorem OwnB.keep {w w' : World} {base : Nat} {v : Value} {l : List UInt8} (h : OwnB w base v l) (hh : ∀ k, v.ownBlock = some k → w'.heap[k]? = w.heap[k]?) : OwnB w' base v l := by
  refine ⟨h.1, ?_⟩
  rcases h.2 with h2 | ⟨g, cap, cur, hv, hg, hb, r⟩
  · exact .inl h2
  · exact .inr ⟨g, cap, cur, hv, hg, by rw [hh g (by rw [hv]; rfl)]; exact hb, r⟩
theorem OwnB.alloc {w : World} {base : Nat} {v : Value} {l : List UInt8} (h : OwnB w base v l) (o : Obj) : OwnB (w.alloc o) base v l := World.ownsRow.alloc h o
theorem OwnB.ext {w : World} {base : Nat} {v : Value} {l : List UInt8} (h : OwnB w base v l) (x : Grow) : OwnB (w.ext x) base v l :=
  h.keep fun k hk => (Below.of_ext w x).block k (h.lt hk).2
theorem byteV_one (l : List UInt8) : ∀ u ∈ l.map byteV, u.oneCell' = true := by
  intro u hu
  obtain ⟨_, _, rfl⟩ := List.mem_map.1 hu
  rfl
theorem wpB {w : World} {ops : Array Oper} {rest : List Oper} {o : Oper} {a : Act} {Q : Exit → Act → World → Prop} (hgd : o.guard = none) (sl xo : Operand) (tx : TypeId)
    (ho : o.op = .call { callee := .builtin .append, args := #[sl, xo], argTypes := #[47, tx] }) (base : Nat) (v : Value) (l : List UInt8) (hv : a.eval sl = v) (hown : OwnB w base v l)
    (x : Value) (m : Nat) (news : List UInt8) (hx : a.eval xo = x) (hm : m = news.length) (hs : Src Try.prog 1 tx x m (news.map byteV) w) (hlen : l.length + news.length ≤ 1099511627776) (hbase : base ≤ w.heap.size)
    (h : ∀ v' w', OwnB w' base v' (l ++ news) → Grew w w' v v' → wpList Try.prog ops Q rest (a.put o.dst v') w') : wpList Try.prog ops Q (o :: rest) a w := by
  obtain ⟨i, hi, hz, h1, hb⟩ := info_parts infoB
  subst hm
  refine wpList_append_grew (P := Try.prog) hgd sl xo 47 tx ho base 5 i (.int .u8 0) Try.underlying47 hi hz (by rw [h1]; rfl) (by omega) v l.length (l.map byteV) hv (by rw [h1]; exact hown) x news.length (news.map byteV) hx
    (by rw [h1]; exact hs) (by unfold maxLen; omega) (by rw [hb]; omega) hbase fun v' w' h2 h3 => h v' w' ?_ h3
  unfold OwnB
  rw [List.length_append, List.map_append, ← h1]
  exact h2
theorem wpB_str {w : World} {ops : Array Oper} {rest : List Oper} {o : Oper} {a : Act} {Q : Exit → Act → World → Prop} (hgd : o.guard = none) (sl xo : Operand)
    (ho : o.op = .call { callee := .builtin .append, args := #[sl, xo], argTypes := #[47, 9] }) (base : Nat) (v : Value) (l : List UInt8) (hv : a.eval sl = v) (hown : OwnB w base v l)
    (s : ByteArray) (hx : a.eval xo = .string s) (hlen : l.length + s.size ≤ 1099511627776) (hbase : base ≤ w.heap.size)
    (h : ∀ v' w', OwnB w' base v' (l ++ s.data.toList) → Grew w w' v v' → wpList Try.prog ops Q rest (a.put o.dst v') w') : wpList Try.prog ops Q (o :: rest) a w :=
  wpB hgd sl xo 9 ho base v l hv hown (.string s) s.size s.data.toList hx (len_data s).symm (Src.ofString w Try.underlying9 s) (by rw [len_data]; exact hlen) hbase h
theorem wpB_new {w : World} {ops : Array Oper} {rest : List Oper} {o : Oper} {a : Act} {Q : Exit → Act → World → Prop} (hgd : o.guard = none) (sl xo : Operand)
    (ho : o.op = .call { callee := .builtin .append, args := #[sl, xo], argTypes := #[47, 47] }) (base : Nat) (v : Value) (l : List UInt8) (hv : a.eval sl = v) (hown : OwnB w base v l)
    (news : List UInt8) (b m : Nat) (hm : m = news.length) (hx : a.eval xo = .slice (some ⟨b, 0, none⟩) m m) (hc : w.heap[b]? = some (.cells (news.map byteV).toArray 5)) (hlen : l.length + news.length ≤ 1099511627776) (hbase : base ≤ w.heap.size)
    (h : ∀ v' w', OwnB w' base v' (l ++ news) → Grew w w' v v' → wpList Try.prog ops Q rest (a.put o.dst v') w') : wpList Try.prog ops Q (o :: rest) a w :=
  wpB hgd sl xo 47 ho base v l hv hown _ m news hx hm (Src.ofSlice w Try.underlying47 _ m m _ (by simp [hm]) (fun j u hj => by
    rw [Addr.add_lit]; simp only [World.cell?, hc, Nat.zero_add]; simpa using hj) (byteV_one news)) hlen hbase h
theorem new_cells {w : World} {cs cs' : Array Value} {e : TypeId} (h : cs' = cs) : (w.alloc (.cells cs e)).heap[w.heap.size]? = some (.cells cs' e) := by subst h; exact heap_alloc_new w _
theorem byteV_of (n : Nat) (h : n < 256) : byteV (UInt8.ofNat n) = .int .u8 (n : Int) := by
  unfold byteV; rw [UInt8.toNat_ofNat_of_lt' (by simpa [UInt8.size] using h)]

set_option maxHeartbeats 400000 in
theorem appendNumber (v : Value) (l : List UInt8) (n : Nat) (w : World) (base : Nat) (hown : OwnB w base v l) (hbase : base ≤ w.heap.size) (hn : n < 16777216) (hl : l.length ≤ 1000000000000) :
    Calls Try.prog 75 #[v, .int .i64 n] w fun e w' => ∃ v', e = .returned v' ∧ OwnB w' base v' (l ++ be 3 n) ∧ Grew w w' v v' := by
  have HE : Hid (([UInt8.ofNat (n / 65536), UInt8.ofNat (n / 256 % 256), UInt8.ofNat (n % 256)].map byteV).toArray = #[.int .u8 ((n : Int) / 65536), .int .u8 ((n : Int) / 256 % 256), .int .u8 ((n : Int) % 256)]) := by
    show _ = _
    simp only [List.map_cons, List.map_nil, byteV_of (n / 65536) (by omega), byteV_of (n / 256 % 256) (by omega), byteV_of (n % 256) (by omega)]
    simp
  have HB : Hid (be 3 n = [UInt8.ofNat (n / 65536), UInt8.ofNat (n / 256 % 256), UInt8.ofNat (n % 256)]) := by
    show _ = _
    simp [be, Nat.mod_eq_of_lt (show n / 65536 < 256 by omega)]
  have ho : ∀ o, OwnB (w.alloc o) base v l := fun o => hown.alloc o
  clear hown
  go_enter Try.func75, Try.ntmps75
  go_wp2_with (at_builtin; refine wpB_new rfl _ _ rfl base v l rfl (ho _) _ _ 3 rfl rfl (new_cells HE.out) (by simp only [List.length_cons, List.length_nil]; omega) (by simp; omega) ?_; intro v1 w1 ho1 hg1)
  go_ret
  exact ⟨v1, rfl, by rw [HB.out]; exact ho1, ((Grew.refl w v).alloc _).trans hg1⟩
end Go.Proofs.Ytcbbnmodjnnbeaa
/- Texts, blocks and commands put behind a slice. -/
set_option linter.unusedSimpArgs false
set_option linter.unusedVariables false
namespace Go.Proofs.Ytcbbnmodjnnbeaa
open Go.RowKit

/-- What holds while a slice grows beside a box. -/
structure Hold (w0 w : World) (base k : Nat) (cs : Array Value) (t : TypeId) (v0 v : Value) (l : List UInt8) : Prop where
  own : OwnB w base v l
  hb : base ≤ w.heap.size
  lt : k < w.heap.size
  ne : v.ownBlock ≠ some k
  blk : w.heap[k]? = some (.cells cs t)
  G : Grew w0 w v0 v
theorem Hold.start {w : World} {base : Nat} {cs : Array Value} {t : TypeId} {v : Value} {l : List UInt8} (h : OwnB w base v l) (hb : base ≤ w.heap.size) : Hold w (w.alloc (.cells cs t)) base w.heap.size cs t v v l :=
  ⟨h.alloc _, by simp; omega, by simp, fun he => by have := (h.lt he).2; omega, heap_alloc_new w _, (Grew.refl w v).alloc _⟩
theorem Hold.step {w0 w w' : World} {base k : Nat} {cs : Array Value} {t : TypeId} {v0 v v' : Value} {l l' : List UInt8} (h : Hold w0 w base k cs t v0 v l) (ho : OwnB w' base v' l') (hg : Grew w w' v v') : Hold w0 w' base k cs t v0 v' l' :=
  ⟨ho, Nat.le_trans h.hb hg.g.size, Nat.lt_of_lt_of_le h.lt hg.g.size, fun he => by
    rcases hg.own with h1 | h1
    · exact h.ne (h1 ▸ he)
    · have := h1 k he; have := h.lt; omega, (hg.keep h.lt h.ne).trans h.blk, h.G.trans hg⟩
theorem Hold.alloc {w0 w : World} {base k : Nat} {cs : Array Value} {t : TypeId} {v0 v : Value} {l : List UInt8} (h : Hold w0 w base k cs t v0 v l) (o : Obj) : Hold w0 (w.alloc o) base k cs t v0 v l :=
  h.step (h.own.alloc o) ((Grew.refl w v).alloc o)
theorem Hold.cell {w0 w : World} {base k : Nat} {cs : Array Value} {t : TypeId} {v0 v : Value} {l : List UInt8} (h : Hold w0 w base k cs t v0 v l) : ∀ o, w.cell? ⟨k, o, none⟩ = cs[o]? := fun o => by simp [World.cell?, h.blk]

theorem new_cells' {w : World} {cs cs' : Array Value} {e : TypeId} {b : Nat} (hb : b = w.heap.size) (h : cs' = cs) : (w.alloc (.cells cs e)).heap[b]? = some (.cells cs' e) := by subst h; subst hb; exact heap_alloc_new w _
theorem appendNumberI (v : Value) (l : List UInt8) (n : Int) (w : World) (base : Nat) (hown : OwnB w base v l) (hbase : base ≤ w.heap.size) (h0 : 0 ≤ n) (h1 : n < 16777216) (hl : l.length ≤ 1000000000000) :
    Calls Try.prog 75 #[v, .int .i64 n] w fun e w' => ∃ v', e = .returned v' ∧ OwnB w' base v' (l ++ be 3 n.toNat) ∧ Grew w w' v v' := by
  obtain ⟨m, rfl⟩ := Int.eq_ofNat_of_zero_le h0
  exact appendNumber v l m w base hown hbase (by omega) hl

set_option maxHeartbeats 400000 in
theorem appendText (v : Value) (l : List UInt8) (s : ByteArray) (w : World) (base : Nat) (hown : OwnB w base v l) (hbase : base ≤ w.heap.size) (hs : s.size ≤ 255) (hl : l.length ≤ 1000000000000) :
    Calls Try.prog 123 #[v, .string s] w fun e w' => ∃ v', e = .returned v' ∧ OwnB w' base v' (l ++ (be 1 s.size ++ s.data.toList)) ∧ Grew w w' v v' := by
  have HE : Hid (([UInt8.ofNat s.size].map byteV).toArray = #[.int .u8 (s.size : Int)]) := by
    show _ = _
    simp only [List.map_cons, List.map_nil, byteV_of s.size (by omega)]
  have HB : Hid (be 1 s.size = [UInt8.ofNat s.size]) := by
    show _ = _
    simp [be, Nat.mod_eq_of_lt (show s.size < 256 by omega)]
  have ho : ∀ o, OwnB (w.alloc o) base v l := fun o => hown.alloc o
  clear hown
  go_enter Try.func123, Try.ntmps123
  go_wp2_with (first | (at_builtin; refine wpB_new rfl _ _ rfl base v l rfl (ho _) _ _ 1 rfl rfl (new_cells HE.out) (by simp only [List.length_cons, List.length_nil]; omega) (by simp; omega) ?_; intro v1 w1 ho1 hg1; have hb1 := hg1.g.size) | (at_builtin; refine wpB_str rfl _ _ rfl base v1 _ rfl ho1 s rfl (by simp only [List.length_append, List.length_cons, List.length_nil]; omega) (by simp at hb1; omega) ?_; intro v2 w2 ho2 hg2))
  go_ret
  exact ⟨v2, rfl, by rw [HB.out, ← List.append_assoc]; exact ho2, (((Grew.refl w v).alloc _).trans hg1).trans hg2⟩

set_option maxHeartbeats 400000 in
theorem appendBlock (v : Value) (l : List UInt8) (s : ByteArray) (w : World) (base : Nat) (hown : OwnB w base v l) (hbase : base ≤ w.heap.size) (hs : s.size < 16777216) (hl : l.length ≤ 100000000000) :
    Calls Try.prog 103 #[v, .string s] w fun e w' => ∃ v', e = .returned v' ∧ OwnB w' base v' (l ++ (be 3 s.size ++ s.data.toList)) ∧ Grew w w' v v' := by
  go_enter Try.func103, Try.ntmps103
  go_wp2_with (first | (go_at_call 75; refine (appendNumber v l s.size _ base hown hbase (by omega) (by omega)).mono ?_; rintro e w1 ⟨v1, rfl, ho1, hg1⟩; have hb1 := hg1.g.size) | (at_builtin; refine wpB_str rfl _ _ rfl base v1 _ rfl ho1 s rfl (by simp only [List.length_append, be_length]; omega) (by omega) ?_; intro v2 w2 ho2 hg2))
  go_ret
  exact ⟨v2, rfl, by rw [← List.append_assoc]; exact ho2, hg1.trans hg2⟩

set_option maxHeartbeats 1000000 in
theorem appendCommand (v : Value) (l : List UInt8) (c : Cmd) (w : World) (base : Nat) (hown : OwnB w base v l) (hbase : base ≤ w.heap.size) (h : CmdBd c) (hl : l.length ≤ 1000000000) :
    Calls Try.prog 104 #[v, (.agg #[.int .i64 c.kind, .string c.key, .string c.val, .string c.old, .int .i64 c.rev, .int .i64 c.ses, .int .i64 c.seq])] w fun e w' => ∃ v', e = .returned v' ∧ OwnB w' base v' (l ++ cmdL c) ∧ Grew w w' v v' := by
  obtain ⟨k0, k4, s0, s8, q0, q1, key, val, old, r0, r1⟩ := h
  obtain ⟨kn, hkn⟩ := Int.eq_ofNat_of_zero_le k0
  obtain ⟨sn, hsn⟩ := Int.eq_ofNat_of_zero_le s0
  have HE : Hid (([UInt8.ofNat kn, UInt8.ofNat sn].map byteV).toArray = #[.int .u8 c.kind, .int .u8 c.ses]) := by
    show _ = _
    simp only [List.map_cons, List.map_nil, byteV_of kn (by omega), byteV_of sn (by omega), hkn, hsn]
  have HB : Hid (be 1 c.kind.toNat ++ be 1 c.ses.toNat = [UInt8.ofNat kn, UInt8.ofNat sn]) := by
    show _ = _
    simp [be, hkn, hsn, Nat.mod_eq_of_lt (show kn < 256 by omega), Nat.mod_eq_of_lt (show sn < 256 by omega)]
  clear hkn hsn
  have H : Hold w (w.alloc (.cells #[.int .i64 c.kind, .string c.key, .string c.val, .string c.old, .int .i64 c.rev, .int .i64 c.ses, .int .i64 c.seq] 23)) base w.heap.size #[.int .i64 c.kind, .string c.key, .string c.val, .string c.old, .int .i64 c.rev, .int .i64 c.ses, .int .i64 c.seq] 23 v v l := Hold.start hown hbase
  clear hown
  go_enter Try.func104, Try.ntmps104
  go_wp2_with (first | (at_builtin; refine wpB_new rfl _ _ rfl base _ _ rfl (H.alloc _).own _ _ 2 rfl rfl (new_cells' (by simp) HE.out) (by simp only [List.length_cons, List.length_nil]; omega) (H.alloc _).hb ?_; intro v1 w1 ho1 hg1; have H := (H.alloc _).step ho1 hg1; have hk := H.cell; clear ho1 hg1) | (go_at_call 75; refine (appendNumberI _ _ _ _ base H.own H.hb (by omega) (by omega) (by simp only [List.length_append, List.length_cons, List.length_nil, be_length, len_data]; omega)).mono ?_; rintro e w1 ⟨v1, rfl, ho1, hg1⟩; have H := H.step ho1 hg1; have hk := H.cell; clear ho1 hg1) | (go_at_call 123; refine (appendText _ _ _ _ base H.own H.hb (by omega) (by simp only [List.length_append, List.length_cons, List.length_nil, be_length, len_data]; omega)).mono ?_; rintro e w1 ⟨v1, rfl, ho1, hg1⟩; have H := H.step ho1 hg1; have hk := H.cell; clear ho1 hg1))
  go_ret
  exact ⟨v1, rfl, by have h := H.own; rw [← HB.out] at h; simpa only [cmdL, List.append_assoc] using h, H.G⟩
end Go.Proofs.Ytcbbnmodjnnbeaa
