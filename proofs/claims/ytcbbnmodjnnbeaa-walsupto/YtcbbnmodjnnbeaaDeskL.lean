/- The law's own small functions: pick, works. -/
import Derived.Test.YtcbbnmodjnnbeaaRefScan
import Derived.Test.YtcbbnmodjnnbeaaScanB
import Derived.Test.YtcbbnmodjnnbeaaDeskK
import Derived.Test.YtcbbnmodjnnbeaaHeldM
set_option linter.unusedSimpArgs false
set_option linter.unusedVariables false
namespace Go.Proofs.Ytcbbnmodjnnbeaa
open Go.RowKit
attribute [local go_sem] World.ext_ext

def pickI (c n : Int) : Int := Int.tmod (if c < 0 then -(c + 1) else c) n
theorem pickI_lt (c n : Int) (hn : 0 < n) : 0 ≤ pickI c n ∧ pickI c n < n := by
  unfold pickI
  have h0 : 0 ≤ (if c < 0 then -(c + 1) else c) := by split <;> omega
  rw [Int.tmod_eq_emod_of_nonneg h0]
  exact ⟨Int.emod_nonneg _ (by omega), Int.emod_lt_of_pos _ hn⟩
theorem lawPick (c n : Int) (w : World) (h0 : -9223372036854775808 ≤ c) (h1 : c < 9223372036854775808) (hn : 0 < n) (hn1 : n < 9223372036854775808) :
    Calls Try.prog 24 #[.int .i64 c, .int .i64 n] w fun e w' => e = .returned (.int .i64 (pickI c n)) ∧ w' = w := by
  by_cases hc : c < 0
  · go_enter Try.func24, Try.ntmps24
    go_wp2
    exact bodyPost_ret (v := .int .i64 (pickI c n)) (by simp [results, Try.results24, go_sem, pickI, hc, Int.neg_tmod]) rfl ⟨rfl, rfl⟩
  · go_enter Try.func24, Try.ntmps24
    go_wp2
    have hc' : 0 ≤ c := by omega
    exact bodyPost_ret (v := .int .i64 (pickI c n)) (by simp [results, Try.results24, go_sem, pickI, show ¬ c < 0 by omega, Int.tmod_eq_emod_of_nonneg hc']) rfl ⟨rfl, rfl⟩
theorem works_enc : encL ⟨2, 0, 0, 2, 1, 0, Cmd.zero, ⟨#[]⟩⟩ = [2, 0, 0, 2, 2, 0, 21, 0, 7] := by decide
theorem works_sum : By.sum [97] = 6422626 := by decide
set_option maxRecDepth 100000 in
theorem lawWorks (w : World) :
    Calls Try.prog 23 #[] w fun e w' => e = .returned (.bool true) ∧ Below w.heap.size w w' := by
  go_enter Try.func23, Try.ntmps23
  go_wp2_with fail
  refine (codecEncode ⟨2, 0, 0, 2, 1, 0, Cmd.zero, ⟨#[]⟩⟩ _ (by decide)).mono ?_
  rw [works_enc]
  rintro e w1 ⟨rfl, hb1⟩
  obtain ⟨x1, rfl⟩ := Below.ext hb1
  clear hb1
  have hconv := conv_new (w.ext x1) [2, 0, 0, 2, 2, 0, 21, 0, 7] 9 rfl _ rfl
  rw [World.ext_size, show strOfNums [2, 0, 0, 2, 2, 0, 21, 0, 7] = B [2, 0, 0, 2, 2, 0, 21, 0, 7] from by rfl] at hconv
  simp only [List.map_cons, List.map_nil] at hconv
  go_wp2_with fail
  refine (codecSum ⟨#[97]⟩ _ (by decide)).mono ?_
  rw [works_sum]
  rintro e w1 ⟨rfl, rfl⟩
  go_wp2_with fail
  exact bodyPost_ret (v := .bool true) (by simp [results, Try.results23, go_sem]) rfl ⟨rfl, Gr.alloc (Below.of_ext w x1) _⟩
end Go.Proofs.Ytcbbnmodjnnbeaa
/- The law on journals: a deed at a journal, from the desk. -/
set_option linter.unusedSimpArgs false
set_option linter.unusedVariables false
namespace Go.Proofs.Ytcbbnmodjnnbeaa
open Go.RowKit

set_option maxRecDepth 100000 in
set_option maxHeartbeats 4000000 in
theorem jnOther (w : World) (dp : Nat) (x : DeedV) (j y : Nat) (g2 : (x.kind == 2) = false) (g3 : (x.kind == 3) = false) (g4 : (x.kind == 4) = false) :
    Calls Try.prog 89 #[.pointer (some ⟨dp, 0, none⟩), .agg x.cells.toArray, .pointer (some ⟨j, 0, none⟩), .pointer (some ⟨y, 0, none⟩)] w fun e w' => e = .returned (.bool true) ∧ Below w.heap.size w w' := by
  unfold DeedV.cells
  go_enter Try.func89, Try.ntmps89
  go_wp2_with fail
  go_ret
  exact ⟨rfl, (by repeat (first | exact Below.refl _ _ | assumption | with_reducible refine below_drewN ?_ _ | refine Gr.ext ?_ _ | refine Gr.alloc ?_ _ | refine Gr.drew ?_ | (refine Gr.set ?_ (by first | (simp; done) | (simp; omega)) _)))⟩
theorem Rdy.up {d : DD} {m m' : Nat} (h : Rdy d m) (hm : m ≤ m') : Rdy d m' := ⟨h.jx, h.yx, h.len, h.D, h.L, h.calm, h.le.up hm, Nat.le_trans h.m0 hm, h.jl⟩
theorem DeedOut.up {w0 : World} {dp n m m' : Nat} {e : Ending} {w' : World} (h : DeedOut w0 dp n m e w') (hm : m ≤ m') : DeedOut w0 dp n m' e w' := by
  obtain ⟨a, d', b, c, e1, e2, e3⟩ := h
  exact ⟨a, d', b, c.up hm, e1, e2, e3⟩
theorem jnAny (w : World) (d : DD) (m b : Nat) (h : DAt w d) (hr : Rdy d m) (hm : m + b ≤ 100000000) (x : DeedV) (hx : x.ok d.w0 b) (i j y : Nat) (hj : d.js[i]? = some j) (hy : d.ys[i]? = some y) (hn : d.n ≤ 100000000) :
    Calls Try.prog 89 #[.pointer (some ⟨d.dp, 0, none⟩), .agg x.cells.toArray, .pointer (some ⟨j, 0, none⟩), .pointer (some ⟨y, 0, none⟩)] w (DeedOut d.w0 d.dp (d.n + 4) (m + b)) := by
  have hF : ∀ z, w.heap.size ≤ z → ({ d with col := colUp d.col w.heap.size 6 } : DD).col z = 6 := fun z hz => colUp_ge hz
  have hr' : Rdy { d with col := colUp d.col w.heap.size 6 } m := ⟨hr.jx, hr.yx, hr.len, hr.D, hr.L, hr.calm, hr.le, hr.m0, hr.jl⟩
  by_cases k2 : x.kind = 2
  · exact jnWrite w { d with col := colUp d.col w.heap.size 6 } m b h.fresh hr' hm x hx k2 i j y hj hy hF hn
  by_cases k3 : x.kind = 3
  · exact jnRewrite w { d with col := colUp d.col w.heap.size 6 } m b h.fresh hr' hm x hx k3 i j y hj hy hF hn
  by_cases k4 : x.kind = 4
  · exact (jnState w { d with col := colUp d.col w.heap.size 6 } m b h.fresh hr' hm x hx k4 i j y hj hy hF hn).mono fun e w' h => h.up (Nat.le_add_right _ _)
  · refine (jnOther w d.dp x j y (beq_eq_false_iff_ne.2 k2) (beq_eq_false_iff_ne.2 k3) (beq_eq_false_iff_ne.2 k4)).mono ?_
    rintro e w' ⟨rfl, hb⟩
    exact (deedOut_mk (d := d) (h.grown hb) hr rfl rfl (by omega)).up (Nat.le_add_right _ _)
theorem list_cell {w : World} {T : TypeId} {v : Value} {l : List Nat} (h : w.ownL T 1 v (l.map ptrC)) {i b : Nat} (hi : l[i]? = some b) : ∃ g c, v = .slice (some ⟨g, 0, none⟩) l.length c ∧ w.cell? ⟨g, i, none⟩ = some (.pointer (some ⟨b, 0, none⟩)) := by
  have hr := h.reads
  have hil := (List.getElem?_eq_some_iff.1 hi).1
  rcases hr with ⟨_, h2⟩ | ⟨g, off, cap, hv, hg, hc⟩
  · have : l = [] := by simpa using h2
    subst this; cases hi
  · have h0 : off = 0 := by
      have := (World.ownL.off0 (hv ▸ h) (g := g) rfl).1
      injection this with this; injection this
    subst h0
    have hc' := (hc i (ptrC b) (by rw [List.getElem?_map, hi]; rfl)).2
    have h1 := hc' 0 _ rfl
    rw [List.length_map] at hv
    exact ⟨g, cap, hv, by simpa using h1⟩
set_option maxRecDepth 100000 in
set_option maxHeartbeats 8000000 in
theorem deedJ (w : World) (d : DD) (m b : Nat) (h : DAt w d) (hr : Rdy d m) (hm : m + b ≤ 100000000) (x : DeedV) (hx : x.ok d.w0 b) (hn : d.n ≤ 100000000) (g1 : (x.kind == 1) = false) (g5 : (x.kind == 5) = false) (g6 : (x.kind == 6) = false) (g7 : (x.kind == 7) = false) :
    Calls Try.prog 38 #[.pointer (some ⟨d.dp, 0, none⟩), .agg x.cells.toArray] w (DeedOut d.w0 d.dp (d.n + 4) (m + b)) := by
  have H : Hid (DAt w d) := h
  have HR : Hid (Rdy d m) := hr
  have HX : Hid (x.ok d.w0 b) := hx
  have HM : Hid (m + b ≤ 100000000) := hm
  have HN : Hid (d.n ≤ 100000000) := hn
  obtain ⟨c0, c1, c2, c3, c4, cf⟩ := desk_cells h.blk
  have hdp := h.lt
  obtain ⟨xa, xc, hxv⟩ := h.ox.len
  rw [List.length_map] at hxv
  obtain ⟨N, hN⟩ : ∃ n, n = d.jx.length := ⟨_, rfl⟩
  rw [← hN] at hxv
  have HNL : Hid (N = d.jx.length) := hN
  have hN9 : N ≤ 100000000 := by rw [hN, hr.jx]; have := hr.jl; omega
  have hk := hx.k0
  rw [hxv] at c2
  have HXV : Hid (d.xv = .slice xa N xc) := hxv
  clear h hr hx hm hn hN hxv
  unfold DeedV.cells
  by_cases h0 : N = 0
  · have h00 : ((N : Int) == 0) = true := by rw [h0]; rfl
    subst h0
    go_enter Try.func38, Try.ntmps38
    go_wp2_with fail
    go_ret
    exact (deedOut_mk (d := d) (H.out.grown (by repeat (first | exact Below.refl _ _ | assumption | with_reducible refine below_drewN ?_ _ | refine Gr.ext ?_ _ | refine Gr.alloc ?_ _ | refine Gr.drew ?_ | (refine Gr.set ?_ (by first | (simp; done) | (simp; omega)) _)))) HR.out rfl rfl (by omega)).up (Nat.le_add_right _ _)
  · have h00 : ((N : Int) == 0) = false := by rw [beq_eq_false_iff_ne]; omega
    obtain ⟨i, hpi, hiN⟩ : ∃ i : Nat, pickI x.k N = i ∧ i < N := by
      have h1 := pickI_lt x.k N (by omega)
      exact ⟨(pickI x.k N).toNat, by omega, by omega⟩
    have HPK : Hid (∀ W, Calls Try.prog 24 #[.int .i64 x.k, .int .i64 N] W fun e w' => e = .returned (.int .i64 i) ∧ w' = W) := fun W => by
      rw [← hpi]
      exact lawPick x.k N W hk.1 hk.2 (by omega) (by omega)
    obtain ⟨j, hj⟩ : ∃ j, d.js[i]? = some j := by
      have : i < d.js.length := by have := HNL.out; rw [HR.out.jx] at this; omega
      exact ⟨_, List.getElem?_eq_getElem this⟩
    obtain ⟨y, hy⟩ : ∃ y, d.ys[i]? = some y := by
      have : i < d.ys.length := by have := HNL.out; rw [HR.out.jx] at this; have := HR.out.len; omega
      exact ⟨_, List.getElem?_eq_getElem this⟩
    have HJ : Hid (d.js[i]? = some j ∧ d.ys[i]? = some y) := ⟨hj, hy⟩
    clear hpi hj hy hk
    go_enter Try.func38, Try.ntmps38
    go_wp2_with fail
    refine world_any (F := fun W => Below w.heap.size w W ∧ W.heap[w.heap.size]? = some (.cells #[.int .i64 x.kind, .int .i64 x.k, .int .i64 x.keep, .slice x.ra x.rs.length x.rc, .int .i64 x.S.gen, .int .i64 x.S.term, .int .i64 x.S.vote, .int .i64 x.S.base, .int .i64 x.S.bterm, .string x.S.data, .slice x.la x.S.log.length x.lc] 92)) ⟨(by repeat (first | exact Below.refl _ _ | assumption | with_reducible refine below_drewN ?_ _ | refine Gr.ext ?_ _ | refine Gr.alloc ?_ _ | refine Gr.drew ?_ | (refine Gr.set ?_ (by first | (simp; done) | (simp; omega)) _))), Hp.new rfl⟩ ?_
    rintro W ⟨hbW, hWa⟩
    have HWA : Hid (W.heap[w.heap.size]? = some (.cells #[.int .i64 x.kind, .int .i64 x.k, .int .i64 x.keep, .slice x.ra x.rs.length x.rc, .int .i64 x.S.gen, .int .i64 x.S.term, .int .i64 x.S.vote, .int .i64 x.S.base, .int .i64 x.S.bterm, .string x.S.data, .slice x.la x.S.log.length x.lc] 92)) := hWa
    have HW : Hid (DAt W d) := H.out.grown hbW
    clear c0 c1 c2 c3 c4 cf
    obtain ⟨k0, k1, k2, k3, k4, kf⟩ := desk_cells HW.out.blk
    rw [HXV.out] at k2
    obtain ⟨a0, a1, a2, a3, a4, a5, a6, a7, a8, a9, a10, af⟩ := deed_cells hWa
    have hal : w.heap.size < W.heap.size := (Array.getElem?_eq_some_iff.1 hWa).1
    have hdW : d.dp < W.heap.size := HW.out.lt
    clear hbW hWa
    go_region_held3 (fun w' => w'.cell? ⟨w.heap.size, 1, none⟩ = some (.int .i64 x.k) ∧ w'.cell? ⟨d.dp, 2, none⟩ = some (.slice xa N xc)) (go_keep)
      (first | (
        go_at_call 24
        refine (HPK.out _).mono ?_
        rintro e _ ⟨rfl, rfl⟩))
    have hji := HJ.out.1
    rw [← HR.out.jx] at hji
    have hyi := HJ.out.2
    rw [← HR.out.yx] at hyi
    have HWD : Hid (DAt W.drew d) := HW.out.grown (Gr.drew (Below.refl W.heap.size W))
    obtain ⟨gx, xc', hgx, hcx⟩ := list_cell HWD.out.ox hji
    obtain ⟨gy, yc, hgy, hcy⟩ := list_cell HWD.out.oy hyi
    rw [HXV.out, ← HNL.out] at hgx
    injection hgx with e1 e2 e3
    subst e1 e3
    obtain ⟨M, hM⟩ : ∃ n, n = d.yx.length := ⟨_, rfl⟩
    have hiM : i < M := by rw [hM]; exact (List.getElem?_eq_some_iff.1 hyi).1
    rw [← hM] at hgy
    rw [hgy] at k3
    have hi0 : (0 : Int) ≤ (i : Int) := by omega
    have hi1 : (i : Int) < (N : Int) := by omega
    have hi2 : (i : Int) < (M : Int) := by omega
    have HJC : Hid (Calls Try.prog 89 #[.pointer (some ⟨d.dp, 0, none⟩), .agg #[.int .i64 x.kind, .int .i64 x.k, .int .i64 x.keep, .slice x.ra x.rs.length x.rc, .int .i64 x.S.gen, .int .i64 x.S.term, .int .i64 x.S.vote, .int .i64 x.S.base, .int .i64 x.S.bterm, .string x.S.data, .slice x.la x.S.log.length x.lc], .pointer (some ⟨j, 0, none⟩), .pointer (some ⟨y, 0, none⟩)] W.drew.drew (DeedOut d.w0 d.dp (d.n + 4) (m + b))) := jnAny W.drew.drew d m b (HWD.out.grown (Gr.drew (Below.refl W.drew.heap.size W.drew))) HR.out HM.out x HX.out i j y HJ.out.1 HJ.out.2 HN.out
    clear hji hyi hM hgy e2
    go_wp2_with fail
    refine wp_region_late (fun w' => w'.cell? ⟨w.heap.size, 0, none⟩ = some (.int .i64 x.kind) ∧ w'.cell? ⟨w.heap.size, 1, none⟩ = some (.int .i64 x.k) ∧ w'.cell? ⟨w.heap.size, 2, none⟩ = some (.int .i64 x.keep) ∧ w'.cell? ⟨w.heap.size, 3, none⟩ = some (.slice x.ra x.rs.length x.rc) ∧ w'.cell? ⟨w.heap.size, 4, none⟩ = some (.int .i64 x.S.gen) ∧ w'.cell? ⟨w.heap.size, 5, none⟩ = some (.int .i64 x.S.term) ∧ w'.cell? ⟨w.heap.size, 6, none⟩ = some (.int .i64 x.S.vote) ∧ w'.cell? ⟨w.heap.size, 7, none⟩ = some (.int .i64 x.S.base) ∧ w'.cell? ⟨w.heap.size, 8, none⟩ = some (.int .i64 x.S.bterm) ∧ w'.cell? ⟨w.heap.size, 9, none⟩ = some (.string x.S.data) ∧ w'.cell? ⟨w.heap.size, 10, none⟩ = some (.slice x.la x.S.log.length x.lc) ∧ w'.cell? ⟨d.dp, 2, none⟩ = some (.slice (some ⟨gx, 0, none⟩) N xc) ∧ w'.cell? ⟨d.dp, 3, none⟩ = some (.slice (some ⟨gy, 0, none⟩) M yc) ∧ w'.cell? ⟨gx, i, none⟩ = some (.pointer (some ⟨j, 0, none⟩)) ∧ w'.cell? ⟨gy, i, none⟩ = some (.pointer (some ⟨y, 0, none⟩))) [16, 17] (by kernel_rfl) ?_
    have HS0 : ((fun w' => w'.cell? ⟨w.heap.size, 0, none⟩ = some (.int .i64 x.kind) ∧ w'.cell? ⟨w.heap.size, 1, none⟩ = some (.int .i64 x.k) ∧ w'.cell? ⟨w.heap.size, 2, none⟩ = some (.int .i64 x.keep) ∧ w'.cell? ⟨w.heap.size, 3, none⟩ = some (.slice x.ra x.rs.length x.rc) ∧ w'.cell? ⟨w.heap.size, 4, none⟩ = some (.int .i64 x.S.gen) ∧ w'.cell? ⟨w.heap.size, 5, none⟩ = some (.int .i64 x.S.term) ∧ w'.cell? ⟨w.heap.size, 6, none⟩ = some (.int .i64 x.S.vote) ∧ w'.cell? ⟨w.heap.size, 7, none⟩ = some (.int .i64 x.S.base) ∧ w'.cell? ⟨w.heap.size, 8, none⟩ = some (.int .i64 x.S.bterm) ∧ w'.cell? ⟨w.heap.size, 9, none⟩ = some (.string x.S.data) ∧ w'.cell? ⟨w.heap.size, 10, none⟩ = some (.slice x.la x.S.log.length x.lc) ∧ w'.cell? ⟨d.dp, 2, none⟩ = some (.slice (some ⟨gx, 0, none⟩) N xc) ∧ w'.cell? ⟨d.dp, 3, none⟩ = some (.slice (some ⟨gy, 0, none⟩) M yc) ∧ w'.cell? ⟨gx, i, none⟩ = some (.pointer (some ⟨j, 0, none⟩)) ∧ w'.cell? ⟨gy, i, none⟩ = some (.pointer (some ⟨y, 0, none⟩))) : World → Prop) W.drew.drew := ⟨a0, a1, a2, a3, a4, a5, a6, a7, a8, a9, a10, k2, k3, hcx, hcy⟩
    refine wpLate.takeC (i := 0) (v := (.pointer (some ⟨d.dp, 0, none⟩))) [16, 17] rfl (by kernel_rfl) (by kernel_rfl) (by kernel_rfl) (by kernel_rfl) (fun _ _ _ h => h) (Or.inl ⟨by rfl, fun w hSw => ?hy0⟩) HS0 ?_
    case hy0 => (try dsimp only at hSw); go_simp
    simp only [Act.put, List.getElem_toArray, List.getElem_cons_zero, List.getElem_cons_succ, List.setIfInBounds_toArray, List.set_cons_zero, List.set_cons_succ]
    refine wpLate.takeC (i := 1) (v := (.agg #[.int .i64 x.kind, .int .i64 x.k, .int .i64 x.keep, .slice x.ra x.rs.length x.rc, .int .i64 x.S.gen, .int .i64 x.S.term, .int .i64 x.S.vote, .int .i64 x.S.base, .int .i64 x.S.bterm, .string x.S.data, .slice x.la x.S.log.length x.lc])) [16, 17] rfl (by kernel_rfl) (by kernel_rfl) (by kernel_rfl) (by kernel_rfl) (fun _ _ _ h => h) (Or.inl ⟨by rfl, fun w hSw => ?hy1⟩) HS0 ?_
    case hy1 => (try dsimp only at hSw); go_simp
    simp only [Act.put, List.getElem_toArray, List.getElem_cons_zero, List.getElem_cons_succ, List.setIfInBounds_toArray, List.set_cons_zero, List.set_cons_succ]
    refine wpLate.takeC (i := 2) (v := (.pointer (some ⟨d.dp, 0, none⟩))) [3, 4, 5, 7, 8, 16, 17] rfl (by kernel_rfl) (by kernel_rfl) (by kernel_rfl) (by kernel_rfl) (fun _ _ _ h => h) (Or.inl ⟨by rfl, fun w hSw => ?hy2⟩) HS0 ?_
    case hy2 => (try dsimp only at hSw); go_simp
    simp only [Act.put, List.getElem_toArray, List.getElem_cons_zero, List.getElem_cons_succ, List.setIfInBounds_toArray, List.set_cons_zero, List.set_cons_succ]
    refine wpLate.takeC (i := 3) (v := (.pointer (some ⟨d.dp, 0, none⟩))) [4, 5, 7, 8, 16, 17] rfl (by kernel_rfl) (by kernel_rfl) (by kernel_rfl) (by kernel_rfl) (fun _ _ _ h => h) (Or.inl ⟨by rfl, fun w hSw => ?hy3⟩) HS0 ?_
    case hy3 => (try dsimp only at hSw); go_simp
    simp only [Act.put, List.getElem_toArray, List.getElem_cons_zero, List.getElem_cons_succ, List.setIfInBounds_toArray, List.set_cons_zero, List.set_cons_succ]
    refine wpLate.takeC (i := 4) (v := (.pointer (some ⟨d.dp, 2, none⟩))) [5, 7, 8, 16, 17] rfl (by kernel_rfl) (by kernel_rfl) (by kernel_rfl) (by kernel_rfl) (fun _ _ _ h => h) (Or.inl ⟨by rfl, fun w hSw => ?hy4⟩) HS0 ?_
    case hy4 => (try dsimp only at hSw); go_simp
    simp only [Act.put, List.getElem_toArray, List.getElem_cons_zero, List.getElem_cons_succ, List.setIfInBounds_toArray, List.set_cons_zero, List.set_cons_succ]
    refine wpLate.takeC (i := 5) (v := (.slice (some ⟨gx, 0, none⟩) N xc)) [7, 8, 16, 17] rfl (by kernel_rfl) (by kernel_rfl) (by kernel_rfl) (by kernel_rfl) (fun _ _ _ h => h) (Or.inl ⟨by rfl, fun w hSw => ?hy5⟩) HS0 ?_
    case hy5 => (try dsimp only at hSw); go_simp
    simp only [Act.put, List.getElem_toArray, List.getElem_cons_zero, List.getElem_cons_succ, List.setIfInBounds_toArray, List.set_cons_zero, List.set_cons_succ]
    refine wpLate.takeC (i := 6) (v := (.int .i64 (i : Nat))) [7, 8, 16, 17] rfl (by kernel_rfl) (by kernel_rfl) (by kernel_rfl) (by kernel_rfl) (fun _ _ _ h => h) (Or.inl ⟨by rfl, fun w hSw => ?hy6⟩) HS0 ?_
    case hy6 => (try dsimp only at hSw); go_simp
    simp only [Act.put, List.getElem_toArray, List.getElem_cons_zero, List.getElem_cons_succ, List.setIfInBounds_toArray, List.set_cons_zero, List.set_cons_succ]
    refine wpLate.takeC (i := 7) (v := (.pointer (some ⟨gx, i, none⟩))) [8, 16, 17] rfl (by kernel_rfl) (by kernel_rfl) (by kernel_rfl) (by kernel_rfl) (fun _ _ _ h => h) (Or.inl ⟨by rfl, fun w hSw => ?hy7⟩) HS0 ?_
    case hy7 => (try dsimp only at hSw); go_simp
    simp only [Act.put, List.getElem_toArray, List.getElem_cons_zero, List.getElem_cons_succ, List.setIfInBounds_toArray, List.set_cons_zero, List.set_cons_succ]
    refine wpLate.takeC (i := 8) (v := (.pointer (some ⟨j, 0, none⟩))) [16, 17] rfl (by kernel_rfl) (by kernel_rfl) (by kernel_rfl) (by kernel_rfl) (fun _ _ _ h => h) (Or.inl ⟨by rfl, fun w hSw => ?hy8⟩) HS0 ?_
    case hy8 => (try dsimp only at hSw); go_simp
    simp only [Act.put, List.getElem_toArray, List.getElem_cons_zero, List.getElem_cons_succ, List.setIfInBounds_toArray, List.set_cons_zero, List.set_cons_succ]
    refine wpLate.takeC (i := 9) (v := (.pointer (some ⟨d.dp, 0, none⟩))) [10, 11, 12, 14, 15, 16, 17] rfl (by kernel_rfl) (by kernel_rfl) (by kernel_rfl) (by kernel_rfl) (fun _ _ _ h => h) (Or.inl ⟨by rfl, fun w hSw => ?hy9⟩) HS0 ?_
    case hy9 => (try dsimp only at hSw); go_simp
    simp only [Act.put, List.getElem_toArray, List.getElem_cons_zero, List.getElem_cons_succ, List.setIfInBounds_toArray, List.set_cons_zero, List.set_cons_succ]
    refine wpLate.takeC (i := 10) (v := (.pointer (some ⟨d.dp, 0, none⟩))) [11, 12, 14, 15, 16, 17] rfl (by kernel_rfl) (by kernel_rfl) (by kernel_rfl) (by kernel_rfl) (fun _ _ _ h => h) (Or.inl ⟨by rfl, fun w hSw => ?hy10⟩) HS0 ?_
    case hy10 => (try dsimp only at hSw); go_simp
    simp only [Act.put, List.getElem_toArray, List.getElem_cons_zero, List.getElem_cons_succ, List.setIfInBounds_toArray, List.set_cons_zero, List.set_cons_succ]
    refine wpLate.takeC (i := 11) (v := (.pointer (some ⟨d.dp, 3, none⟩))) [12, 14, 15, 16, 17] rfl (by kernel_rfl) (by kernel_rfl) (by kernel_rfl) (by kernel_rfl) (fun _ _ _ h => h) (Or.inl ⟨by rfl, fun w hSw => ?hy11⟩) HS0 ?_
    case hy11 => (try dsimp only at hSw); go_simp
    simp only [Act.put, List.getElem_toArray, List.getElem_cons_zero, List.getElem_cons_succ, List.setIfInBounds_toArray, List.set_cons_zero, List.set_cons_succ]
    refine wpLate.takeC (i := 12) (v := (.slice (some ⟨gy, 0, none⟩) M yc)) [14, 15, 16, 17] rfl (by kernel_rfl) (by kernel_rfl) (by kernel_rfl) (by kernel_rfl) (fun _ _ _ h => h) (Or.inl ⟨by rfl, fun w hSw => ?hy12⟩) HS0 ?_
    case hy12 => (try dsimp only at hSw); go_simp
    simp only [Act.put, List.getElem_toArray, List.getElem_cons_zero, List.getElem_cons_succ, List.setIfInBounds_toArray, List.set_cons_zero, List.set_cons_succ]
    refine wpLate.takeC (i := 13) (v := (.int .i64 (i : Nat))) [14, 15, 16, 17] rfl (by kernel_rfl) (by kernel_rfl) (by kernel_rfl) (by kernel_rfl) (fun _ _ _ h => h) (Or.inl ⟨by rfl, fun w hSw => ?hy13⟩) HS0 ?_
    case hy13 => (try dsimp only at hSw); go_simp
    simp only [Act.put, List.getElem_toArray, List.getElem_cons_zero, List.getElem_cons_succ, List.setIfInBounds_toArray, List.set_cons_zero, List.set_cons_succ]
    refine wpLate.takeC (i := 14) (v := (.pointer (some ⟨gy, i, none⟩))) [15, 16, 17] rfl (by kernel_rfl) (by kernel_rfl) (by kernel_rfl) (by kernel_rfl) (fun _ _ _ h => h) (Or.inl ⟨by rfl, fun w hSw => ?hy14⟩) HS0 ?_
    case hy14 => (try dsimp only at hSw); go_simp
    simp only [Act.put, List.getElem_toArray, List.getElem_cons_zero, List.getElem_cons_succ, List.setIfInBounds_toArray, List.set_cons_zero, List.set_cons_succ]
    refine wpLate.takeC (i := 15) (v := (.pointer (some ⟨y, 0, none⟩))) [16, 17] rfl (by kernel_rfl) (by kernel_rfl) (by kernel_rfl) (by kernel_rfl) (fun _ _ _ h => h) (Or.inl ⟨by rfl, fun w hSw => ?hy15⟩) HS0 ?_
    case hy15 => (try dsimp only at hSw); go_simp
    simp only [Act.put, List.getElem_toArray, List.getElem_cons_zero, List.getElem_cons_succ, List.setIfInBounds_toArray, List.set_cons_zero, List.set_cons_succ]
    refine wpLate.only (i := 16) rfl (by kernel_rfl) (by rfl) ?_
    simp only [Act.put, List.getElem_toArray, List.getElem_cons_zero, List.getElem_cons_succ, List.setIfInBounds_toArray, List.set_cons_zero, List.set_cons_succ]
    go_simp
    refine HJC.out.mono ?_
    rintro e w9 ⟨rfl, hd9⟩
    have HD9 : Hid (∃ d', DAt w9 d' ∧ Rdy d' (m + b) ∧ d'.w0 = d.w0 ∧ d'.dp = d.dp ∧ d'.n = d.n + 4) := hd9
    clear hd9
    dsimp only
    refine wpLate.only (i := 17) rfl (by kernel_rfl) (by rfl) ?_
    simp only [Act.put, List.getElem_toArray, List.getElem_cons_zero, List.getElem_cons_succ, List.setIfInBounds_toArray, List.set_cons_zero, List.set_cons_succ]
    go_simp
    refine ⟨by kernel_rfl, ?_⟩
    clear HJC HS0 HWD hcx hcy k0 k1 k2 k3 k4 kf a0 a1 a2 a3 a4 a5 a6 a7 a8 a9 a10 af
    go_wp2_with fail
    go_ret
    exact ⟨rfl, HD9.out⟩
end Go.Proofs.Ytcbbnmodjnnbeaa
