/- The document's store in memory; its find, has, next. -/
import Derived.Test.YtcbbnmodjnnbeaaRefFind
import Derived.Test.YtcbbnmodjnnbeaaSameCmd
import Derived.Test.YtcbbnmodjnnbeaaLook
import Derived.BigQuiet
set_option linter.unusedSimpArgs false
set_option linter.unusedVariables false
namespace Go.Proofs.Ytcbbnmodjnnbeaa
open Go.RowKit

def kvCells (x : KV) : List Value := [.string x.1, .int .i64 x.2.rev, .bool x.2.gone, .string x.2.val]
def rsC (s : St) (vl : Value) : Array Value := (.int .i64 s.rev :: .int .i64 s.floor :: vl :: sessCells ((0, ⟨false, 0, false⟩) :: s.ss)).toArray
structure RefAt (w : World) (q : Nat) (vl : Value) (s : St) (l : List KV) : Prop where
  blk : w.heap[q]? = some (.cells (rsC s vl) 147)
  own : w.ownL 203 4 vl (l.map kvCells)
  tells : Tells s l
  good : Good s
def footR (q : Nat) (vl : Value) (x : Nat) : Prop := x = q ∨ vl.ownBlock = some x
theorem RefAt.lt {w : World} {q : Nat} {vl : Value} {s : St} {l : List KV} (h : RefAt w q vl s l) : q < w.heap.size := (Array.getElem?_eq_some_iff.1 h.blk).1
theorem RefAt.off {w : World} {q : Nat} {vl : Value} {s : St} {l : List KV} (h : RefAt w q vl s l) : vl.ownBlock ≠ some q := by
  intro e
  rcases h.own.1.2 with ⟨rfl, _⟩ | ⟨g, cap, cur, rfl, _, hb, _⟩
  · cases e
  · have e2 : g = q := by simpa [Value.ownBlock] using e
    subst e2
    rw [h.blk] at hb
    injection hb with hb
    injection hb with _ h1 _
    exact absurd h1 (by decide)
theorem RefAt.foot_lt {w : World} {q : Nat} {vl : Value} {s : St} {l : List KV} (h : RefAt w q vl s l) {x : Nat} (hx : footR q vl x) : x < w.heap.size := by
  rcases hx with rfl | hx
  · exact h.lt
  · exact h.own.lt hx
theorem RefAt.keep {w w' : World} {q : Nat} {vl : Value} {s : St} {l : List KV} (h : RefAt w q vl s l) (hk : ∀ x, footR q vl x → w'.heap[x]? = w.heap[x]?) : RefAt w' q vl s l :=
  ⟨(hk q (.inl rfl)).trans h.blk, h.own.keep fun x hx => hk x (.inr hx), h.tells, h.good⟩
theorem RefAt.grown {w w' : World} {q : Nat} {vl : Value} {s : St} {l : List KV} (h : RefAt w q vl s l) (hb : Below w.heap.size w w') : RefAt w' q vl s l := h.keep fun x hx => hb.block x (h.foot_lt hx)
theorem rs_cells {w : World} {q : Nat} {vl : Value} {s : St} (h : w.heap[q]? = some (.cells (rsC s vl) 147)) :
    w.cell? ⟨q, 0, none⟩ = some (.int .i64 s.rev) ∧ w.cell? ⟨q, 1, none⟩ = some (.int .i64 s.floor) ∧ w.cell? ⟨q, 2, none⟩ = some vl ∧ ∀ o, w.frozen? ⟨q, o, none⟩ = false := by
  refine ⟨?_, ?_, ?_, fun o => ?_⟩
  · simp only [World.cell?, h]; rfl
  · simp only [World.cell?, h]; rfl
  · simp only [World.cell?, h]; rfl
  · simp [World.frozen?, h]
theorem kv_off {w : World} {b p : Nat} {x : KV} (h : w.rangeAt b p (kvCells x)) : w.cell? ⟨b, p, none⟩ = some (.string x.1) ∧ w.cell? ⟨b, p + 1, none⟩ = some (.int .i64 x.2.rev) ∧ w.cell? ⟨b, p + 2, none⟩ = some (.bool x.2.gone) ∧ w.cell? ⟨b, p + 3, none⟩ = some (.string x.2.val) :=
  ⟨h 0 _ rfl, h 1 _ rfl, h 2 _ rfl, h 3 _ rfl⟩
theorem RefAt.at_ {w : World} {q : Nat} {vl : Value} {s : St} {l : List KV} (h : RefAt w q vl s l) : ∃ a cap, vl = .slice a l.length cap := by
  obtain ⟨a, c, hv⟩ := h.own.len
  rw [List.length_map] at hv
  exact ⟨a, c, hv⟩
theorem kv_reads {w : World} {a : Option Addr} {n cap : Nat} {l : List KV} (h : w.ownL 203 4 (.slice a n cap) (l.map kvCells)) {k : Nat} {x : KV} (hk : l[k]? = some x) : ∃ g, a = some ⟨g, 0, none⟩ ∧ g < w.heap.size ∧ w.rangeAt g (k * 4) (kvCells x) := by
  have hr := h.reads
  rcases hr with ⟨_, h2⟩ | ⟨g, off, cap', hv, hg, hc⟩
  · have : l = [] := by simpa using h2
    subst this; simp at hk
  · injection hv with h1 h2 h3
    subst h1
    have h0 : off = 0 := by
      have := (World.ownL.off0 h (g := g) rfl).1
      injection this with this; injection this
    subst h0
    have := (hc k (kvCells x) (by rw [List.getElem?_map, hk]; rfl)).2
    rw [Nat.zero_add] at this
    exact ⟨g, rfl, hg, this⟩
theorem RefAt.len {w : World} {q : Nat} {vl : Value} {s : St} {l : List KV} (h : RefAt w q vl s l) : l.length ≤ 1000000 := Nat.le_trans (h.tells.len fun k v hv => h.good.bd k v hv) h.good.rev
theorem tl_cmp (t s : ByteArray) : (t.toList == s.toList) = (t == s) := (beq_toListBytes t s).symm
theorem hit_iff (k : ByteArray) (rev : Int) (x : KV) : hitB k rev x = (x.1.toList == k.toList && decide ((x.2.rev : Int) ≤ rev)) := by
  rw [tl_cmp]
  unfold hitB
  rw [Bool.eq_iff_iff]
  simp [beq_bytes]
set_option maxRecDepth 100000 in
set_option maxHeartbeats 1000000 in
theorem refFind (w : World) (q : Nat) (vl : Value) (s : St) (l : List KV) (h : RefAt w q vl s l) (k : ByteArray) (rev : Int) :
    Calls Try.prog 151 #[.pointer (some ⟨q, 0, none⟩), .string k, .int .i64 rev] w fun e w' => e = .returned (.int .i64 (findN l k rev l.length)) ∧ Below w.heap.size w w' := by
  obtain ⟨a, cap, rfl⟩ := h.at_
  obtain ⟨c0, c1, c2, cf⟩ := rs_cells h.blk
  have hq := h.lt
  have hown := h.own
  have hlen := h.len
  clear h
  go_enter Try.func151, Try.ntmps151
  go_wp2_with fail
  go_loopw [7, 8] (fun av iv wr => ∃ i : Nat, i ≤ l.length ∧ iv = .int .i64 i ∧ av = .int .i64 (findN l k rev i) ∧ ∃ n, wr = w.drewN n) (fun _ iv _ => l.length - (intOf iv).toNat)
  case atStart => exact ⟨0, Nat.zero_le _, rfl, rfl, 0, rfl⟩
  case round =>
    obtain ⟨i, hi, rfl, rfl, n, rfl⟩ := hrel
    by_cases hlt : i < l.length
    · have hx := List.getElem?_eq_getElem hlt
      generalize l[i] = x at hx
      obtain ⟨g, rfl, hg, hr⟩ := kv_reads hown hx
      obtain ⟨d0, d1, d2, d3⟩ := kv_off hr
      have hit := hit_iff k rev x
      have HX : Hid (l[i]? = some x) := hx
      clear hx hr hown
      have hi1 : (i : Int) < l.length := by omega
      cases hb1 : (x.1.toList == k.toList)
      · rw [hb1] at hit
        have HF : Hid (findN l k rev (i + 1) = findN l k rev i) := findN_no HX.out (by rw [hit]; rfl)
        clear hit
        go_wp2_with fail
        exact ⟨⟨i + 1, by omega, val_int (by omega), by rw [HF.out], n, rfl⟩, by simp [intOf]; omega⟩
      · rw [hb1] at hit
        by_cases hb2 : (x.2.rev : Int) ≤ rev
        · have HF : Hid (findN l k rev (i + 1) = i) := findN_yes HX.out (by rw [hit]; simpa using hb2)
          clear hit
          go_wp2_with fail
          exact ⟨⟨i + 1, by omega, val_int (by omega), by rw [HF.out], n, rfl⟩, by simp [intOf]; omega⟩
        · have HF : Hid (findN l k rev (i + 1) = findN l k rev i) := findN_no HX.out (by rw [hit]; simpa using hb2)
          clear hit
          go_wp2_with fail
          exact ⟨⟨i + 1, by omega, val_int (by omega), by rw [HF.out], n, rfl⟩, by simp [intOf]; omega⟩
    · have hii : i = l.length := by omega
      subst hii
      go_wp2_with fail
      go_ret
      exact ⟨rfl, below_drewN (Below.refl _ _) n⟩
/-- A key's value at a revision. -/
def hasV (l : List KV) (k : ByteArray) (rev : Int) : Option Ver := match newest l k rev with
  | some v => if v.gone = true then none else some v
  | none => none
def hasC (k : ByteArray) : Option Ver → Array Value
  | some v => #[.string k, .int .i64 v.rev, .bool v.gone, .string v.val]
  | none => #[.string ⟨#[]⟩, .int .i64 0, .bool false, .string ⟨#[]⟩]
theorem hasV_at {l : List KV} (h : RAsc l) (k : ByteArray) (rev : Int) : (hasV l k rev = none ∧ (atV (versOf l k) rev).gone = true) ∨ (hasV l k rev = some (atV (versOf l k) rev) ∧ (atV (versOf l k) rev).gone = false) := by
  rw [atV_newest h]
  unfold hasV
  cases newest l k rev with
  | none => exact .inl ⟨rfl, rfl⟩
  | some v =>
    simp only [Option.getD_some]
    cases hg : v.gone
    · exact .inr ⟨by simp, rfl⟩
    · exact .inl ⟨by simp, rfl⟩
set_option maxRecDepth 100000 in
set_option maxHeartbeats 1000000 in
theorem refHas (w : World) (q : Nat) (vl : Value) (s : St) (l : List KV) (h : RefAt w q vl s l) (k : ByteArray) (rev : Int) :
    Calls Try.prog 114 #[.pointer (some ⟨q, 0, none⟩), .string k, .int .i64 rev] w fun e w' => e = .returned (.tuple #[.agg (hasC k (hasV l k rev)), .bool (hasV l k rev).isSome]) ∧ Below w.heap.size w w' := by
  have H : Hid (RefAt w q vl s l) := h
  obtain ⟨a, cap, rfl⟩ := h.at_
  obtain ⟨c0, c1, c2, cf⟩ := rs_cells h.blk
  have hq := h.lt
  have hown := h.own
  have hlen := h.len
  have hnw := find_newest h.tells.asc k rev
  clear h
  rcases hnw with ⟨hf, hn⟩ | ⟨i, v, hf, hi, hx, hn⟩
  · have HV : Hid (hasV l k rev = none) := by show _ = _; unfold hasV; rw [hn]
    clear hn hown
    go_enter Try.func114, Try.ntmps114
    go_wp2_with fail
    refine (refFind _ q _ s l (H.out.grown (by repeat (first | exact Below.refl _ _ | assumption | with_reducible refine below_drewN ?_ _ | refine Gr.ext ?_ _ | refine Gr.alloc ?_ _ | refine Gr.drew ?_ | (refine Gr.set ?_ (by first | (simp; done) | (simp; omega)) _)))) k rev).mono ?_
    rw [hf]
    rintro e w1 ⟨rfl, hb⟩
    obtain ⟨x1, rfl⟩ := Below.ext hb
    clear hb hf
    go_wp2_with fail
    exact bodyPost_ret (v := .tuple #[.agg #[.string ⟨#[]⟩, .int .i64 0, .bool false, .string ⟨#[]⟩], .bool false]) (by simp [results, Try.results114, go_sem]) rfl ⟨by rw [HV.out]; rfl, (by repeat (first | exact Below.refl _ _ | assumption | with_reducible refine below_drewN ?_ _ | refine Gr.ext ?_ _ | refine Gr.alloc ?_ _ | refine Gr.drew ?_ | (refine Gr.set ?_ (by first | (simp; done) | (simp; omega)) _)))⟩
  · obtain ⟨g, rfl, hg, hr⟩ := kv_reads hown hx
    obtain ⟨d0, d1, d2, d3⟩ := kv_off hr
    have hi1 : (i : Int) < l.length := by omega
    simp only at d0 d1 d2 d3
    cases hgone : v.gone
    · have HV : Hid (hasV l k rev = some v) := by show _ = _; unfold hasV; rw [hn]; simp [hgone]
      have HG : Hid (v.gone = false) := hgone
      rw [hgone] at d2
      clear hn hown hr hx hgone
      go_enter Try.func114, Try.ntmps114
      go_wp2_with fail
      refine (refFind _ q _ s l (H.out.grown (by repeat (first | exact Below.refl _ _ | assumption | with_reducible refine below_drewN ?_ _ | refine Gr.ext ?_ _ | refine Gr.alloc ?_ _ | refine Gr.drew ?_ | (refine Gr.set ?_ (by first | (simp; done) | (simp; omega)) _)))) k rev).mono ?_
      rw [hf]
      rintro e w1 ⟨rfl, hb⟩
      obtain ⟨x1, rfl⟩ := Below.ext hb
      clear hb hf
      go_wp2_with fail
      exact bodyPost_ret (v := .tuple #[.agg #[.string k, .int .i64 v.rev, .bool false, .string v.val], .bool true]) (by simp [results, Try.results114, go_sem]) rfl ⟨by rw [HV.out]; simp only [hasC, HG.out]; rfl, (by repeat (first | exact Below.refl _ _ | assumption | with_reducible refine below_drewN ?_ _ | refine Gr.ext ?_ _ | refine Gr.alloc ?_ _ | refine Gr.drew ?_ | (refine Gr.set ?_ (by first | (simp; done) | (simp; omega)) _)))⟩
    · have HV : Hid (hasV l k rev = none) := by show _ = _; unfold hasV; rw [hn]; simp [hgone]
      rw [hgone] at d2
      clear hn hown hr hx
      go_enter Try.func114, Try.ntmps114
      go_wp2_with fail
      refine (refFind _ q _ s l (H.out.grown (by repeat (first | exact Below.refl _ _ | assumption | with_reducible refine below_drewN ?_ _ | refine Gr.ext ?_ _ | refine Gr.alloc ?_ _ | refine Gr.drew ?_ | (refine Gr.set ?_ (by first | (simp; done) | (simp; omega)) _)))) k rev).mono ?_
      rw [hf]
      rintro e w1 ⟨rfl, hb⟩
      obtain ⟨x1, rfl⟩ := Below.ext hb
      clear hb hf
      go_wp2_with fail
      exact bodyPost_ret (v := .tuple #[.agg #[.string ⟨#[]⟩, .int .i64 0, .bool false, .string ⟨#[]⟩], .bool false]) (by simp [results, Try.results114, go_sem]) rfl ⟨by rw [HV.out]; rfl, (by repeat (first | exact Below.refl _ _ | assumption | with_reducible refine below_drewN ?_ _ | refine Gr.ext ?_ _ | refine Gr.alloc ?_ _ | refine Gr.drew ?_ | (refine Gr.set ?_ (by first | (simp; done) | (simp; omega)) _)))⟩
set_option maxRecDepth 100000 in
set_option maxHeartbeats 2000000 in
theorem refNext (w : World) (q : Nat) (vl : Value) (s : St) (l : List KV) (h : RefAt w q vl s l) (k : ByteArray) (wi : Bool) :
    Calls Try.prog 113 #[.pointer (some ⟨q, 0, none⟩), .string k, .bool wi] w fun e w' => ∃ b f, e = .returned (.tuple #[.string b, .bool f]) ∧ Hid (NextIs l k wi b f) ∧ Below w.heap.size w w' := by
  obtain ⟨a, cap, rfl⟩ := h.at_
  obtain ⟨c0, c1, c2, cf⟩ := rs_cells h.blk
  have hq := h.lt
  have hown := h.own
  have hlen := h.len
  clear h
  go_enter Try.func113, Try.ntmps113
  go_wp2_with fail
  go_loopw [8, 9, 10] (fun bv fv iv wr => ∃ (i : Nat) (b : ByteArray) (f : Bool), i ≤ l.length ∧ iv = .int .i64 i ∧ bv = .string b ∧ fv = .bool f ∧ Hid (NextIs (l.take i) k wi b f) ∧ ∃ n, wr = w.drewN n) (fun _ _ iv _ => l.length - (intOf iv).toNat)
  case atStart => exact ⟨0, ⟨#[]⟩, false, Nat.zero_le _, rfl, rfl, rfl, NextIs.nil k wi, 0, rfl⟩
  case round =>
    obtain ⟨i, b, f, hi, rfl, rfl, rfl, HN, n, rfl⟩ := hrel
    by_cases hlt : i < l.length
    · have hx := List.getElem?_eq_getElem hlt
      generalize l[i] = x at hx
      obtain ⟨g, rfl, hg, hr⟩ := kv_reads hown hx
      obtain ⟨d0, d1, d2, d3⟩ := kv_off hr
      have HT : Hid (l.take (i + 1) = l.take i ++ [x]) := by show _ = _; rw [List.take_add_one, hx]; rfl
      have hi1 : (i : Int) < l.length := by omega
      clear hx hr hown
      cases hb1 : Op.bytesLess x.1.toList k.toList
      · have hn1 : k.data.toList ≤ x.1.data.toList := fun hc => by rw [(bl_data _ _).2 hc] at hb1; cases hb1
        cases hb2 : (x.1.toList == k.toList)
        · have hne : ¬ x.1 = k := fun e => by rw [tl_cmp, e, (beq_bytes _ _).2 rfl] at hb2; cases hb2
          have HC : Hid (candK k wi x.1) := .inl (Classical.byContradiction fun hn => hne (bytes_ext (List.le_antisymm hn hn1)))
          clear hne hn1
          cases f
          · have HS : Hid (NextIs (l.take (i + 1)) k wi x.1 true) := by
              show NextIs _ _ _ _ _
              rw [HT.out]; exact HN.out.take x HC.out (.inl rfl)
            go_wp2_with fail
            exact ⟨⟨i + 1, x.1, true, by omega, val_int (by omega), rfl, rfl, HS, n, rfl⟩, by simp [intOf]; omega⟩
          · cases hb3 : Op.bytesLess x.1.toList b.toList
            · have HS : Hid (NextIs (l.take (i + 1)) k wi b true) := by
                show NextIs _ _ _ _ _
                rw [HT.out]; exact HN.out.skip x (.inr ⟨rfl, fun hc => by rw [(bl_data _ _).2 hc] at hb3; cases hb3⟩)
              go_wp2_with fail
              exact ⟨⟨i + 1, b, true, by omega, val_int (by omega), rfl, rfl, HS, n, rfl⟩, by simp [intOf]; omega⟩
            · have HS : Hid (NextIs (l.take (i + 1)) k wi x.1 true) := by
                show NextIs _ _ _ _ _
                rw [HT.out]; exact HN.out.take x HC.out (.inr ((bl_data _ _).1 hb3))
              go_wp2_with fail
              exact ⟨⟨i + 1, x.1, true, by omega, val_int (by omega), rfl, rfl, HS, n, rfl⟩, by simp [intOf]; omega⟩
        · have he : x.1 = k := by rw [tl_cmp, beq_bytes] at hb2; exact hb2
          cases wi
          · have HNC : Hid (¬ candK k false x.1) := by rintro (hc | ⟨hc, _⟩); exact absurd (he ▸ hc) (List.lt_irrefl _); cases hc
            clear he hn1
            have HS : Hid (NextIs (l.take (i + 1)) k false b f) := by
              show NextIs _ _ _ _ _
              rw [HT.out]; exact HN.out.skip x (.inl HNC.out)
            go_wp2_with fail
            exact ⟨⟨i + 1, b, f, by omega, val_int (by omega), rfl, rfl, HS, n, rfl⟩, by simp [intOf]; omega⟩
          · have HC : Hid (candK k true x.1) := .inr ⟨rfl, he⟩
            clear he hn1
            cases f
            · have HS : Hid (NextIs (l.take (i + 1)) k true x.1 true) := by
                show NextIs _ _ _ _ _
                rw [HT.out]; exact HN.out.take x HC.out (.inl rfl)
              go_wp2_with fail
              exact ⟨⟨i + 1, x.1, true, by omega, val_int (by omega), rfl, rfl, HS, n, rfl⟩, by simp [intOf]; omega⟩
            · cases hb3 : Op.bytesLess x.1.toList b.toList
              · have HS : Hid (NextIs (l.take (i + 1)) k true b true) := by
                  show NextIs _ _ _ _ _
                  rw [HT.out]; exact HN.out.skip x (.inr ⟨rfl, fun hc => by rw [(bl_data _ _).2 hc] at hb3; cases hb3⟩)
                go_wp2_with fail
                exact ⟨⟨i + 1, b, true, by omega, val_int (by omega), rfl, rfl, HS, n, rfl⟩, by simp [intOf]; omega⟩
              · have HS : Hid (NextIs (l.take (i + 1)) k true x.1 true) := by
                  show NextIs _ _ _ _ _
                  rw [HT.out]; exact HN.out.take x HC.out (.inr ((bl_data _ _).1 hb3))
                go_wp2_with fail
                exact ⟨⟨i + 1, x.1, true, by omega, val_int (by omega), rfl, rfl, HS, n, rfl⟩, by simp [intOf]; omega⟩
      · have HNC : Hid (¬ candK k wi x.1) := by
          have h1 := (bl_data _ _).1 hb1
          rintro (hc | ⟨_, hc⟩)
          · exact absurd (List.lt_trans h1 hc) (List.lt_irrefl _)
          · rw [hc] at h1; exact absurd h1 (List.lt_irrefl _)
        have hb2 : (x.1.toList == k.toList) = false := by
          cases h : (x.1.toList == k.toList)
          · rfl
          · rw [tl_cmp, beq_bytes] at h; have h1 := (bl_data _ _).1 hb1; rw [h] at h1; exact absurd h1 (List.lt_irrefl _)
        cases wi
        · have HS : Hid (NextIs (l.take (i + 1)) k false b f) := by
            show NextIs _ _ _ _ _
            rw [HT.out]; exact HN.out.skip x (.inl HNC.out)
          go_wp2_with fail
          exact ⟨⟨i + 1, b, f, by omega, val_int (by omega), rfl, rfl, HS, n, rfl⟩, by simp [intOf]; omega⟩
        · have HS : Hid (NextIs (l.take (i + 1)) k true b f) := by
            show NextIs _ _ _ _ _
            rw [HT.out]; exact HN.out.skip x (.inl HNC.out)
          go_wp2_with fail
          exact ⟨⟨i + 1, b, f, by omega, val_int (by omega), rfl, rfl, HS, n, rfl⟩, by simp [intOf]; omega⟩
    · have hii : i = l.length := by omega
      subst hii
      rw [List.take_length] at HN
      go_wp2_with fail
      exact bodyPost_ret (v := .tuple #[.string b, .bool f]) (by simp [results, Try.results113, go_sem]) rfl ⟨b, f, rfl, HN, below_drewN (Below.refl _ _) n⟩
end Go.Proofs.Ytcbbnmodjnnbeaa
