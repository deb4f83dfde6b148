/- What was read, as an expression of any kind in memory; a place that is stored in it. Conditions: none. What None of package shape answers: whether nothing is written for an expression. Conditions: the tables lie in memory as their text lays them; the values lie within the reach. -/
import Derived.Test.YtblkhlhhlalbkaaGreatDoorEP
import Derived.Test.YtblkhlhhlalbkaaGreatDoorLD
import Derived.Test.YtblkhlhhlalbkaaGreatDoorEvMem
import Derived.Test.YtblkhlhhlalbkaaGreatDoorXQ
import Derived.Laws.MakeOwn
import Derived.Lib.ItoaLen
namespace Go.Proofs.YtblkhlhhlalbkaaGreatDoor
open Go.RowKit Go.Lib Go.Sort
set_option linter.unusedVariables false
set_option maxRecDepth 20000

theorem lex_txA : lexR txA = .ok txAT := by
  unfold lexR
  rw [if_neg (by decide), toks_txA]
  rfl
theorem lex_txB : lexR txB = .ok txBT := by
  unfold lexR
  rw [if_neg (by decide), toks_txB]
  rfl
theorem lex_txC : lexR txC = .ok txCT := by
  unfold lexR
  rw [if_neg (by decide), toks_txC]
  rfl
theorem lex_txD : lexR txD = .ok txDT := by
  unfold lexR
  rw [if_neg (by decide), toks_txD]
  rfl
theorem gc_up {w : World} {b o : Nat} {p : Option Addr} {c : Nat} : ∀ {m : Nat} {e : Ex}, XC w b o e p c → DpE m e → GC w b o (upN m e) p c
  | 0, e, h, d => by
    have d0 : e.xs = [] := d
    obtain ⟨h0, h1, h2, h3, h4, h5, h6, h7, h8, h9⟩ := h
    rw [d0] at h9
    exact ⟨h0, h1, h2, h3, h4, h5, h6, h7, h8, h9⟩
  | m + 1, e, h, d => by
    obtain ⟨h0, h1, h2, h3, h4, h5, h6, h7, h8, h9⟩ := h
    refine ⟨h0, h1, h2, h3, h4, h5, h6, h7, h8, ?_⟩
    show _ = some (Value.slice p (e.xs.map (upN m)).length c)
    rw [List.length_map]
    exact h9
theorem up_len {m : Nat} {e : Ex} (d : DpE m e) : (upN m e).xs.length = e.xs.length := by
  cases m with
  | zero => rw [show e.xs = [] from d]; rfl
  | succ m => show (e.xs.map (upN m)).length = _; rw [List.length_map]
theorem eat_gat {w : World} {F : Nat → Prop} : ∀ (m k : Nat) (e : Ex) (p : Option Addr), EAt w F k e p → DpE m e → GAt w m (upN m e) p
  | 0, _, e, p, _, _ => rfl
  | m + 1, k, e, p, h, d => by
    refine ⟨by rw [up_len d]; exact d.1, ?_⟩
    match k, h with
    | 0, h => exact Or.inl (by show e.xs.map (upN m) = []; rw [show e.xs = [] from h]; rfl)
    | k + 1, h =>
      rcases h with h | ⟨b, off, hp, hF, hc⟩
      · exact Or.inl (by show e.xs.map (upN m) = []; rw [h]; rfl)
      · refine Or.inr ⟨b, off, hp, fun i hi => ?_⟩
        have hi' : i < e.xs.length := by rw [up_len d] at hi; exact hi
        have hx : (upN (m + 1) e).xs[i] = upN m e.xs[i] := List.getElem_map (upN m)
        have dx := d.2 _ (List.getElem_mem hi')
        obtain ⟨q, c, h1, h2, h3⟩ := hc i hi'
        rw [hx]
        exact ⟨q, c, gc_up h1 dx, eat_gat m k _ q h2 dx, by rw [up_len dx]; exact h3.1⟩
theorem clash {w : World} {b o1 o2 : Nat} {u v : Value} (h1 : w.cell? ⟨b, o1, none⟩ = some u) (h2 : w.cell? ⟨b, o2, none⟩ = some v) (e : o1 = o2) : u = v := by
  subst e
  exact Option.some.inj (h1.symm.trans h2)
/-- Expressions in cells lie apart, or are one. -/
theorem gc_apart {w : World} {b o o2 : Nat} {x e : Gx} {q p : Option Addr} {c c2 : Nat} (hx : GC w b o x q c) (he : GC w b o2 e p c2) (hn : o2 ≠ o) (j : Nat) (hj : j < 10) : o2 + j ≠ o + 7 := by
  intro h
  obtain ⟨x0, x1, x2, x3, x4, x5, x6, x7, x8, x9⟩ := hx
  obtain ⟨y0, y1, y2, y3, y4, y5, y6, y7, y8, y9⟩ := he
  match j, hj with
  | 0, _ => cases clash x9 y2 (by omega)
  | 1, _ => cases clash x9 y3 (by omega)
  | 2, _ => cases clash x9 y4 (by omega)
  | 3, _ => cases clash x9 y5 (by omega)
  | 4, _ => cases clash x7 y4 (by omega)
  | 5, _ => cases clash x7 y5 (by omega)
  | 6, _ => cases clash x7 y6 (by omega)
  | 7, _ => exact hn (by omega)
  | 8, _ => cases clash x8 y9 (by omega)
  | 9, _ => cases clash x7 y9 (by omega)
def setC (e : Gx) (c : Int) : Gx := ⟨e.k, e.op, e.v, e.t, e.n, c, e.y, e.xs⟩
/-- A place of a column was stored; all else is as it was. -/
structure Stored (w w' : World) (b o : Nat) : Prop where
  ne : ∀ b2 o2, ¬ (b2 = b ∧ o2 = o + 7) → w'.cell? ⟨b2, o2, none⟩ = w.cell? ⟨b2, o2, none⟩
  eq : w'.cell? ⟨b, o + 7, none⟩ = some (.int .i64 1)
theorem gc_stored {w w' : World} {b o b2 o2 : Nat} {x e : Gx} {q p : Option Addr} {c c2 : Nat} (S : Stored w w' b o) (hx : GC w b o x q c) (he : GC w b2 o2 e p c2) : ∃ n, GC w' b2 o2 (setC e n) p c2 := by
  by_cases hb : b2 = b
  · subst hb
    by_cases ho : o2 = o
    · subst ho
      obtain ⟨y0, y1, y2, y3, y4, y5, y6, y7, y8, y9⟩ := he
      exact ⟨1, (S.ne _ _ (by omega)).trans y0, (S.ne _ _ (by omega)).trans y1, (S.ne _ _ (by omega)).trans y2, (S.ne _ _ (by omega)).trans y3, (S.ne _ _ (by omega)).trans y4, (S.ne _ _ (by omega)).trans y5, (S.ne _ _ (by omega)).trans y6, S.eq, (S.ne _ _ (by omega)).trans y8, (S.ne _ _ (by omega)).trans y9⟩
    · have A := fun j hj => gc_apart hx he ho j hj
      obtain ⟨y0, y1, y2, y3, y4, y5, y6, y7, y8, y9⟩ := he
      have k : ∀ j, j < 10 → w'.cell? ⟨b2, o2 + j, none⟩ = w.cell? ⟨b2, o2 + j, none⟩ := fun j hj => S.ne _ _ (fun h => A j hj h.2)
      exact ⟨e.c, (k 0 (by omega)).trans y0, (k 1 (by omega)).trans y1, (k 2 (by omega)).trans y2, (k 3 (by omega)).trans y3, (k 4 (by omega)).trans y4, (k 5 (by omega)).trans y5, (k 6 (by omega)).trans y6, (k 7 (by omega)).trans y7, (k 8 (by omega)).trans y8, (k 9 (by omega)).trans y9⟩
  · obtain ⟨y0, y1, y2, y3, y4, y5, y6, y7, y8, y9⟩ := he
    have k : ∀ j, w'.cell? ⟨b2, o2 + j, none⟩ = w.cell? ⟨b2, o2 + j, none⟩ := fun j => S.ne _ _ (fun h => hb h.1)
    exact ⟨e.c, (k 0).trans y0, (k 1).trans y1, (k 2).trans y2, (k 3).trans y3, (k 4).trans y4, (k 5).trans y5, (k 6).trans y6, (k 7).trans y7, (k 8).trans y8, (k 9).trans y9⟩
theorem pick_list {P : Nat → Gx → Prop} : ∀ n, (∀ i, i < n → ∃ z, P i z) → ∃ l : List Gx, l.length = n ∧ ∀ i (h : i < l.length), P i l[i]
  | 0, _ => ⟨[], rfl, fun i h => absurd h (Nat.not_lt_zero _)⟩
  | n + 1, h => by
    obtain ⟨l, hl, hp⟩ := pick_list n (fun i hi => h i (by omega))
    obtain ⟨z, hz⟩ := h n (by omega)
    refine ⟨l ++ [z], by simp [hl], fun i hi => ?_⟩
    by_cases q : i < l.length
    · rw [List.getElem_append_left q]; exact hp i q
    · have : i = n := by simp at hi; omega
      subst this
      rw [List.getElem_append_right (by omega)]
      simpa [hl] using hz
theorem gat_xs {w : World} {n : Nat} {a b : Gx} {p : Option Addr} (h : GAt w n a p) (e : b.xs = a.xs) : GAt w n b p := by
  obtain ⟨k, op, v, t, nn, c, y, xs⟩ := a
  obtain ⟨k', op', v', t', nn', c', y', xs'⟩ := b
  obtain rfl : xs' = xs := e
  cases n <;> exact h
theorem vr_set {m : Nat} {a b : Gx} (h : Vr m a b) (k : Int) : Vr m a (setC b k) := by
  cases m <;> exact h
theorem vr_xs {m : Nat} {a b : Gx} (h : Vr m a b) : Vr m a ⟨a.k, a.op, a.v, a.t, a.n, b.c, a.y, b.xs⟩ := by
  cases m with
  | zero => exact ⟨rfl, rfl, rfl, rfl, rfl, h.2.2.2.2.2⟩
  | succ m => exact ⟨⟨rfl, rfl, rfl, rfl, rfl⟩, h.2⟩
theorem vr_len0 {m : Nat} {a b : Gx} (h : Vr m a b) (ha : m = 0 → a.xs = []) : b.xs.length = a.xs.length := by
  cases m with
  | zero => rw [ha rfl, h.2.2.2.2.2]
  | succ m => exact h.2.1
theorem gat_stored {w w' : World} {b o : Nat} {x : Gx} {q : Option Addr} {c : Nat} (S : Stored w w' b o) (hx : GC w b o x q c) : ∀ (n : Nat) (e : Gx) (p : Option Addr), GAt w n e p → ∃ e', Vr n e e' ∧ GAt w' n e' p
  | 0, e, p, h => ⟨e, ⟨rfl, rfl, rfl, rfl, rfl, h⟩, h⟩
  | n + 1, e, p, h => by
    rcases h.2 with h0 | ⟨bb, off, hp, hc⟩
    · exact ⟨e, ⟨⟨rfl, rfl, rfl, rfl, rfl⟩, rfl, fun i hi => by rw [h0] at hi; simp at hi⟩, h.1, Or.inl h0⟩
    · obtain ⟨l, hl, hP⟩ := pick_list (P := fun i z => ∀ hi : i < e.xs.length, Vr n e.xs[i] z ∧ ∃ q c, GC w' bb (off + i * 10) z q c ∧ GAt w' n z q ∧ z.xs.length ≤ c) e.xs.length (fun i hi => by
        obtain ⟨q, c, h1, h2, h3⟩ := hc i hi
        obtain ⟨e1, v1, g1⟩ := gat_stored S hx n e.xs[i] q h2
        obtain ⟨m, hm⟩ := gc_stored S hx h1
        have hl1 := vr_len0 v1 (fun q => by subst q; exact h2)
        refine ⟨⟨e.xs[i].k, e.xs[i].op, e.xs[i].v, e.xs[i].t, e.xs[i].n, m, e.xs[i].y, e1.xs⟩, fun _ => ⟨?_, q, c, ?_, gat_xs g1 rfl, ?_⟩⟩
        · exact vr_set (vr_xs v1) m
        · obtain ⟨y0, y1, y2, y3, y4, y5, y6, y7, y8, y9⟩ := hm
          refine ⟨y0, y1, y2, y3, y4, y5, y6, y7, y8, ?_⟩
          show _ = some (Value.slice q e1.xs.length c)
          rw [hl1]
          exact y9
        · show e1.xs.length ≤ c
          rw [hl1]; exact h3)
      refine ⟨⟨e.k, e.op, e.v, e.t, e.n, e.c, e.y, l⟩, ⟨⟨rfl, rfl, rfl, rfl, rfl⟩, hl, fun i hi hi' => (hP i hi' hi).1⟩, ?_, Or.inr ⟨bb, off, hp, fun i hi => ?_⟩⟩
      · show l.length ≤ _
        rw [hl]; exact h.1
      · exact (hP i hi (by rw [← hl]; exact hi)).2
theorem vr_rt : ∀ (m : Nat) {a b : Gx}, Vr m a b → RtN m a → RtN m b
  | 0, a, b, ⟨_, _, h2, h3, h4, _⟩, r => by
    obtain ⟨r0, r1, r2⟩ : RtB a := r
    exact ⟨h2 ▸ r0, h3 ▸ r1, h4 ▸ r2⟩
  | m + 1, a, b, ⟨⟨_, _, h2, h3, h4⟩, hl, hv⟩, r => by
    obtain ⟨⟨r0, r1, r2⟩, rx⟩ := r
    refine ⟨⟨h2 ▸ r0, h3 ▸ r1, h4 ▸ r2⟩, fun x hx => ?_⟩
    obtain ⟨i, hi, rfl⟩ := List.getElem_of_mem hx
    exact vr_rt m (hv i (by omega) hi) (rx _ (List.getElem_mem _))
/-- The pair that is decided: after the store. -/
def andA (xs : List Gx) : Gx := ⟨4, 4, v0, [], [], 0, 0, xs⟩
theorem ev_and {e0 e1 y0 y1 : Gx} (h0 : Vr 2 (upN 2 (mkE 4 6 [colE [] [98], numE 0])) e0) (hx : e0.xs = [y0, y1]) (v0' : Vr 1 (upN 1 (colE [] [98])) y0) (v1' : Vr 1 (upN 1 (numE 0)) y1) (hc : y0.c = 1) : evN 3 rowA [] 3 (andA [e0, e1]) = ⟨truthV false, 0⟩ := by
  obtain ⟨k, op, v, t, n, c, y, xs⟩ := e0
  obtain ⟨⟨rfl, rfl, rfl, rfl, rfl⟩, _⟩ := h0
  obtain rfl : xs = [y0, y1] := hx
  obtain ⟨k0, op0, v0, t0, n0, c0, z0, xs0⟩ := y0
  obtain ⟨⟨rfl, rfl, rfl, rfl, rfl⟩, l0, _⟩ := v0'
  obtain rfl : xs0 = [] := List.length_eq_zero_iff.1 l0
  obtain ⟨k1, op1, v1, t1, n1, c1, z1, xs1⟩ := y1
  obtain ⟨⟨rfl, rfl, rfl, rfl, rfl⟩, l1, _⟩ := v1'
  obtain rfl : xs1 = [] := List.length_eq_zero_iff.1 l1
  obtain rfl : c0 = 1 := hc
  kernel_rfl
theorem bs0 : (⟨#[]⟩ : ByteArray).size = 0 := rfl
theorem rt_txA : RtN 3 (upN 3 txAE) := by
  simp [RtN, RtB, RtV, upN, txAE, mkE, colE, numE, litE, v0, Val.right, inR, bs0]
theorem rt_txB : RtN 1 (upN 1 txBE) := by
  simp [RtN, RtB, RtV, upN, txBE, mkE, numE, litE, v0, Val.right, inR, bs0]
theorem rt_txC : RtN 2 (upN 2 txCE) := by
  simp [RtN, RtB, RtV, upN, txCE, mkE, colE, numE, litE, v0, Val.right, inR, bs0]
/-- Two operands that lie in memory. -/
theorem two_at {w : World} {m : Nat} {e : Gx} {q : Option Addr} {p : Addr} (h : GAt w (m + 1) e q) (hq : q = some p) (hl : e.xs.length = 2) : ∃ b o a0 a1 q0 q1 c0 c1, p = ⟨b, o, none⟩ ∧ e.xs = [a0, a1] ∧ GC w b o a0 q0 c0 ∧ GAt w m a0 q0 ∧ GC w b (o + 10) a1 q1 c1 ∧ GAt w m a1 q1 := by
  obtain ⟨_, h | ⟨b, o, hp, hc⟩⟩ := h
  · rw [h] at hl; simp at hl
  · subst hq
    obtain ⟨q0, c0, g0, a0, _⟩ := hc 0 (by omega)
    obtain ⟨q1, c1, g1, a1, _⟩ := hc 1 (by omega)
    match hx : e.xs, hl with
    | [x, y], _ =>
      simp only [hx, List.getElem_cons_zero, List.getElem_cons_succ, Nat.zero_mul, Nat.add_zero, Nat.one_mul] at g0 a0 g1 a1
      exact ⟨b, o, x, y, q0, q1, c0, c1, Option.some.inj hp, rfl, g0, a0, g1, a1⟩
end Go.Proofs.YtblkhlhhlalbkaaGreatDoor
namespace Go.Proofs.YtblkhlhhlalbkaaGreatDoor
open Go.RowKit Go.Lib Go.Sort
set_option linter.unusedVariables false
set_option maxRecDepth 20000

/-- The tables. -/
structure Tb (w : World) : Prop where
  gl : Gl w
  rd : Ready w
theorem Tb.below {w w' : World} (h : Tb w) (B : Below w.heap.size w w') : Tb w' := ⟨h.gl.below B, h.rd.below B⟩
theorem cal_cnt : ∀ o ∈ cals, o.cnt ≤ 3 := by decide
theorem fits_le3 {k op : Int} {n : Nat} (h : fitsB k op n = true) : n ≤ 3 := by
  unfold fitsB at h
  repeat' split at h
  all_goals try (simp only [Bool.and_eq_true, beq_iff_eq] at h; omega)
  · rename_i c hc
    have := cal_cnt c (List.mem_of_find?_eq_some hc)
    simp only [Bool.or_eq_true, beq_iff_eq, Bool.and_eq_true] at h
    omega
  · cases h
  · cases h
/-- Print, of an expression with any place and type. -/
theorem stepOk_any (w0 : World) (j0 j1 : Int) (k op : Int) (v : Val) (t n : List UInt8) (xs : List Ex) (hv : v.s.size ≤ 2147483648 ∧ -9223372036854775808 ≤ v.n ∧ v.n ≤ 9223372036854775807) : StepOk w0 j0 j1 k op v t n xs := by
  cases hf : fitsB k op xs.length with
  | false => exact step_no w0 j0 j1 k op v t n xs hf
  | true => exact step_any w0 j0 j1 k op v t n xs hv (fits_le3 hf)
set_option maxHeartbeats 4000000 in
theorem print_gen {w : World} (m : Nat) (j0 j1 : Int) (k op : Int) (v : Val) (t n : List UInt8) (xs : List Ex) (p : Option Addr) (c : Nat) (hv : v.s.size ≤ 2147483648 ∧ -9223372036854775808 ≤ v.n ∧ v.n ≤ 9223372036854775807) (oks : ∀ x ∈ xs, OkE m x) (eat : EAt w (fun _ => True) (m + 1) ⟨k, op, v, t, n, xs⟩ p) (gl : Gl w) (rd : Ready w) (hlen : (prE ⟨k, op, v, t, n, xs⟩).length ≤ 140737488351232) :
    Calls Tryz.prog 62 #[.agg #[.int .i64 k, .int .i64 op, .int .i64 v.k, .int .i64 v.n, .string v.s, .string ⟨t.toArray⟩, .string ⟨n.toArray⟩, .int .i64 j0, .int .i64 j1, .slice p xs.length c]] w fun r w' => r = .returned (.string ⟨(prE ⟨k, op, v, t, n, xs⟩).toArray⟩) ∧ Below w.heap.size w w' := by
  have B1 := albl w (.cells #[.int .i64 k, .int .i64 op, .int .i64 v.k, .int .i64 v.n, .string v.s, .string ⟨t.toArray⟩, .string ⟨n.toArray⟩, .int .i64 j0, .int .i64 j1, .slice p xs.length c] 26)
  have HX := hid (BG.new w k op v.k v.n j0 j1 v.s ⟨t.toArray⟩ ⟨n.toArray⟩ p xs.length c)
  have HE1 := hid (eat.chg (G := fun _ => False) (Chg.of_below B1) (fun _ _ q => q))
  have HG1 := hid (gl.below B1)
  have HR1 := hid (rd.below B1)
  have HB1 := hid B1
  have HK := hid oks
  have HL := hid hlen
  have HV := hid hv
  clear B1 eat gl rd oks hlen hv
  go_enter Tryz.func62, Tryz.ntmps62
  go_upto_region 1 with fail
  generalize hW : w.alloc _ = W at *
  clear hW
  go_upto_region 2 with fail
  have HW := hid (wf_new W)
  have HB2 := hid (albl W (.cells #[.pointer none, .slice none 0 0] 122))
  have hs2 : (W.alloc (.cells #[.pointer none, .slice none 0 0] 122)).heap.size = W.heap.size + 1 := by simp
  generalize hW2 : World.alloc W _ = W2 at *
  clear hW2
  have HC := hid (show Cx W W2 (· = W.heap.size) from ⟨HB2.out, fun k q => by omega, fun k q => by omega, HG1.out, HR1.out⟩)
  have T1 := hid (stepOk_any W j0 j1 k op v t n xs HV.out W2 (· = W.heap.size) W.heap.size [] p c m HC.out HW.out (fun _ => expr_ok W m) HK.out HE1.out (by simpa using HL.out))
  have hXl := (HX.out.below HB2.out).lt
  obtain ⟨x0, x1, x2, x3, x4, x5, x6, x7, x8, x9⟩ := (HX.out.below HB2.out).cells
  clear hs2
  go_wp2_with (first
    | (go_at_call 75; go_loud (with_reducible refine T1.out.mono ?_); rintro r w3 ⟨rfl, h3, c3⟩; have HC3 := hid c3; go_loud (have T2 := hid (wstr_any h3)); clear h3 c3)
    | (go_at_call 76; with_reducible refine T2.out.mono ?_; rintro r w4 ⟨rfl, c4⟩; have HC4 := hid c4; clear c4)
    | fail)
  go_ret
  refine ⟨rfl, ?_⟩
  have hs1 := HB1.out.size
  have hs2 := HB2.out.size
  have h3 : Below W.heap.size W2 w3 := HC3.out.below (fun k q => Nat.le_of_eq q.symm) hs2
  have h4 : Below W.heap.size w3 w4 := HC4.out.below (fun k q => by rcases q with q | q <;> omega) (by have := HC3.out.size; omega)
  exact (HB1.out.trans (HB2.out.mono hs1)).trans ((h3.trans h4).mono hs1)
/-! ### Operands of which nothing is known -/
def zCells : Array Value := #[.int .i64 0, .int .i64 0, .int .i64 0, .int .i64 0, .string ⟨#[]⟩, .string ⟨#[]⟩, .string ⟨#[]⟩, .int .i64 0, .int .i64 0, .slice none 0 0]
theorem infoExpr : (Tryz.prog.info? 26).map (fun i => (i.zero, i.size, i.bytes)) = some (some (.agg zCells), 10, 120) := by kernel_rfl
theorem mk_exprs (L : Nat) (hL : L ≤ 1048576) (w : World) : (Instr.makeSlice 24 (.int .i64 (L : Int)) (.int .i64 (L : Int))).run Tryz.prog w = .ok (.slice (some ⟨w.heap.size, 0, none⟩) L L) (w.alloc (.cells (madeCells zCells (L * 10)) 26)) := by
  have hI := infoExpr
  cases hi : Tryz.prog.info? 26 with
  | none => rw [hi] at hI; cases hI
  | some i0 =>
    rw [hi] at hI
    simp only [Option.map_some, Option.some.injEq, Prod.mk.injEq] at hI
    obtain ⟨hz0, hz1, hz2⟩ := hI
    have h := run_make (P := Tryz.prog) w 24 26 i0 _ Tryz.underlying24 hi hz0 .i64 .i64 (L : Int) (L : Int) (by omega) (Int.le_refl _) (by rw [hz2]; omega) (by omega)
    rw [hz1, Int.toNat_natCast] at h
    exact h
theorem z_at (L i j : Nat) (hi : i < L) (hj : j < 10) : (madeCells zCells (L * 10))[i * 10 + j]? = some (zCells[j]!) := by
  have hlt : i * 10 + j < L * 10 := by omega
  have hm : (i * 10 + j) % zCells.size = j := by show (i * 10 + j) % 10 = j; omega
  simp only [madeCells, Array.getElem?_map, Array.getElem?_range, hlt, if_true, Option.map_some, hm]
theorem eat_zeros {w : World} {b : Nat} (e : Ex) (L : Nat) (hL : L ≤ 1048576) (he : e.xs = List.replicate L zeroE) (hb : w.heap[b]? = some (.cells (madeCells zCells (L * 10)) 26 (0, 0))) : EAt w (fun _ => True) 1 e (some ⟨b, 0, none⟩) := by
  refine Or.inr ⟨b, 0, rfl, trivial, fun i hi => ?_⟩
  have hi' : i < L := by rw [he] at hi; simpa using hi
  have hx : e.xs[i] = zeroE := by simp [he]
  rw [hx]
  have cc : ∀ j, j < 10 → w.cell? ⟨b, 0 + i * 10 + j, none⟩ = some (zCells[j]!) := fun j hj => by
    rw [Lib.cell_of_heap hb, Nat.zero_add]
    exact z_at L i j hi' hj
  refine ⟨none, 0, ⟨cc 0 (by omega), cc 1 (by omega), cc 2 (by omega), cc 3 (by omega), cc 4 (by omega), cc 5 (by omega), cc 6 (by omega), cc 7 (by omega), cc 8 (by omega), cc 9 (by omega)⟩, rfl, Nat.zero_le _, Lib.frozen_of_heap hb _⟩
theorem okE_zero : OkE 0 zeroE := ⟨by decide, by decide, by decide, by decide⟩
theorem wrapB_lenZ (n : Int) (x : Int × List UInt8) : (wrapB n x).length ≤ x.2.length + 2 := by
  unfold wrapB
  split <;> simp
theorem oprs_tx3Z : ∀ o ∈ oprs, o.txt.length ≤ 3 := by decide
theorem cals_nm8Z : ∀ c ∈ cals, c.name.length ≤ 8 := by decide
theorem up_lenZ (l : List UInt8) : (toUpperA l).length = l.length := by simp [toUpperA]
def sumLZ : List (Int × List UInt8) → Nat
  | [] => 0
  | x :: r => x.2.length + 4 + sumLZ r
theorem joinT_lenZ : ∀ xs, (joinC.joinT xs).length ≤ sumLZ xs
  | [] => Nat.zero_le _
  | x :: r => by
    have := joinT_lenZ r
    simp only [joinC.joinT, List.length_cons, List.length_append, sumLZ]
    omega
theorem joinC_lenZ : ∀ xs, (joinC xs).length ≤ sumLZ xs
  | [] => Nat.zero_le _
  | x :: r => by
    have := joinT_lenZ r
    simp only [joinC, List.length_append, sumLZ]
    omega
theorem nullB_lenZ (op : Int) : (nullB op).length ≤ 12 := by
  unfold nullB
  split <;> simp
theorem colB_lenZ (t n : List UInt8) : (colB t n).length ≤ t.length + n.length + 1 := by
  unfold colB
  split
  · omega
  · simp only [List.length_append, List.length_cons]; omega
theorem prB_lenZ (k op : Int) (v : Val) (t n : List UInt8) (xs : List (Int × List UInt8)) : (prB k op v t n xs).length ≤ (litV v).length + t.length + n.length + 30 + sumLZ xs := by
  unfold prB
  split
  · simp
  · split
    · omega
    · split
      · have := colB_lenZ t n
        omega
      · split
        · cases ho : opOf k op with
          | none => exact Nat.zero_le _
          | some o =>
            cases xs with
            | nil => exact Nat.zero_le _
            | cons x r =>
              have h1 := oprs_tx3Z o (List.mem_of_find?_eq_some ho)
              have h2 := wrapB_lenZ o.line x
              show (toUpperA o.txt ++ 32 :: wrapB o.line x).length ≤ _
              simp only [List.length_append, List.length_cons, up_lenZ, sumLZ]
              omega
        · split
          · cases ho : opOf k op with
            | none => exact Nat.zero_le _
            | some o =>
              match xs with
              | [] => exact Nat.zero_le _
              | [x] => exact Nat.zero_le _
              | x :: y :: r =>
                have h1 := oprs_tx3Z o (List.mem_of_find?_eq_some ho)
                have h2 := wrapB_lenZ (if o.line = 4 then 5 else o.line) x
                have h3 := wrapB_lenZ (o.line + 1) y
                show (wrapB (if o.line = 4 then 5 else o.line) x ++ 32 :: (toUpperA o.txt ++ 32 :: wrapB (o.line + 1) y)).length ≤ _
                simp only [List.length_append, List.length_cons, up_lenZ, sumLZ]
                omega
          · split
            · cases xs with
              | nil => exact Nat.zero_le _
              | cons x r =>
                have h2 := wrapB_lenZ 5 x
                have h3 := nullB_lenZ op
                show (wrapB 5 x ++ nullB op).length ≤ _
                simp only [List.length_append, sumLZ]
                omega
            · split
              · rename_i c hc
                have h1 := cals_nm8Z c (List.mem_of_find?_eq_some hc)
                have h2 := joinC_lenZ xs
                simp only [List.length_append, List.length_cons, List.length_nil, up_lenZ]
                split
                · simp only [List.length_cons, List.length_nil]; omega
                · omega
              · simp
def sumEZ : List Ex → Nat
  | [] => 0
  | x :: r => (prE x).length + 4 + sumEZ r
theorem sumE_LZ : ∀ xs : List Ex, sumLZ (xs.map fun x => (x.line, prE x)) = sumEZ xs
  | [] => rfl
  | x :: r => by simp only [List.map_cons, sumLZ, sumEZ, sumE_LZ r]
theorem litV_lenZ (a : Val) (h : a.k ≠ 2) : (litV a).length ≤ 2 * a.s.data.toList.length + 10 := by
  have h1 := rep_length_le a.s.data.toList
  have h2 := hexL_length a.s.data.toList
  unfold litV
  split
  · simp
  · split
    · split <;> simp
    · split
      · simp only [List.length_cons, List.length_append, List.length_nil]; omega
      · split
        · simp only [List.length_cons, List.length_append, List.length_nil]; omega
        · simp
theorem litV_any {a : Val} (h : -9223372036854775808 ≤ a.n ∧ a.n ≤ 9223372036854775807) : (litV a).length ≤ 2 * a.s.size + 30 := by
  have hs : a.s.data.toList.length = a.s.size := by rw [Array.length_toList]; rfl
  by_cases h2 : a.k = 2
  · have := itoa_length_le a.n h.1 h.2
    unfold litV
    split
    · simp
    · rw [h2, if_neg (by decide)]
      show (itoa a.n).length ≤ _
      omega
  · have := litV_lenZ a h2
    omega
theorem sumE_zero (L : Nat) : sumEZ (List.replicate L zeroE) ≤ 4 * L := by
  induction L with
  | zero => simp [sumEZ]
  | succ n ih =>
    rw [List.replicate_succ, sumEZ]
    have : (prE zeroE).length = 0 := by rw [prE_eq]; rfl
    omega
theorem prZ_len (e : Gx) (hv : e.v.s.size ≤ 2147483648 ∧ -9223372036854775808 ≤ e.v.n ∧ e.v.n ≤ 9223372036854775807) (ht : e.t.length ≤ 2147483648) (hn : e.n.length ≤ 2147483648) (hx : e.xs.length ≤ 1048576) : (prE ⟨e.k, e.op, e.v, e.t, e.n, List.replicate e.xs.length zeroE⟩).length ≤ 140737488351232 := by
  have h1 := prB_lenZ e.k e.op e.v e.t e.n ((List.replicate e.xs.length zeroE).map fun x => (x.line, prE x))
  rw [sumE_LZ] at h1
  have h2 := sumE_zero e.xs.length
  have h3 := litV_any hv.2
  rw [prE_mk]
  omega
theorem none_eq (e : Gx) : ((⟨(prE ⟨e.k, e.op, e.v, e.t, e.n, List.replicate e.xs.length zeroE⟩).toArray⟩ : ByteArray).toList = []) = (noneB e = true) := by
  have h := pr_none e.k e.op e.v e.t e.n ((List.replicate e.xs.length zeroE).map fun x => (x.line, prE x))
  rw [List.length_map, List.length_replicate] at h
  unfold noneB
  rw [← h, ByteArray.toList_eq, ← prE_mk]
set_option maxHeartbeats 4000000 in
theorem none_any (e : Gx) (p : Option Addr) (c : Nat) (w : World) (tb : Tb w) (hv : e.v.s.size ≤ 2147483648 ∧ -9223372036854775808 ≤ e.v.n ∧ e.v.n ≤ 9223372036854775807) (ht : e.t.length ≤ 2147483648) (hn : e.n.length ≤ 2147483648) (hx : e.xs.length ≤ 1048576) :
    Calls Tryz.prog 42 #[gV e p c] w fun r w' => r = .returned (.bool (noneB e)) ∧ Below w.heap.size w w' := by
  have B0 := albl' w (.cells #[.int .i64 e.k, .int .i64 e.op, .int .i64 e.v.k, .int .i64 e.v.n, .string e.v.s, .string ⟨e.t.toArray⟩, .string ⟨e.n.toArray⟩, .int .i64 e.c, .int .i64 e.y, .slice p e.xs.length c] 26)
  have HX := hid (BGx.new w e p c)
  have TB := hid tb
  have HB := hid B0
  have HPL := hid (prZ_len e hv ht hn hx)
  have HV := hid hv
  have hmk : ∀ w : World, (Instr.makeSlice 24 (.int .i64 (e.xs.length : Int)) (.int .i64 (e.xs.length : Int))).run Tryz.prog w = .ok (.slice (some ⟨w.heap.size, 0, none⟩) e.xs.length e.xs.length) (w.alloc (.cells (madeCells zCells (e.xs.length * 10)) 26)) := fun w => mk_exprs e.xs.length hx w
  have HNE := hid (none_eq e)
  have HZ := hid (fun (w : World) (b : Nat) (hb : w.heap[b]? = some (.cells (madeCells zCells (e.xs.length * 10)) 26 (0, 0))) => eat_zeros ⟨e.k, e.op, e.v, e.t, e.n, List.replicate e.xs.length zeroE⟩ e.xs.length hx rfl hb)
  clear B0 tb hv ht hn hx
  go_enter Tryz.func42, Tryz.ntmps42
  go_upto_region 1 with fail
  generalize hW : w.alloc _ = W at *
  have hWs : W.heap.size = w.heap.size + 1 := by rw [← hW]; simp
  clear hW
  have hXl := HX.out.lt
  obtain ⟨x0, x1, x2, x3, x4, x5, x6, x7, x8, x9⟩ := HX.out.cells
  have hfz := HX.out.frozen 9
  have hfz : w.heap.size < (W.alloc (.cells (madeCells zCells (e.xs.length * 10)) 26)).heap.size := by simp; omega
  go_upto_region 2 with fail
  have d0 : ∀ i, i < 9 → ∀ v, W.cell? ⟨w.heap.size, i, none⟩ = some v → ((W.setCell ⟨w.heap.size, 9, none⟩ (.slice (some ⟨w.heap.size + 1, 0, none⟩) e.xs.length e.xs.length)).alloc (.cells (madeCells zCells (e.xs.length * 10)) 26)).cell? ⟨w.heap.size, i, none⟩ = some v := fun i hi v hc => below_cell (albl' _ _) (by
    have : (9 : Nat) ≠ i := by omega
    simp [go_sem, hc])
  have d9 : ((W.setCell ⟨w.heap.size, 9, none⟩ (.slice (some ⟨w.heap.size + 1, 0, none⟩) e.xs.length e.xs.length)).alloc (.cells (madeCells zCells (e.xs.length * 10)) 26)).cell? ⟨w.heap.size, 9, none⟩ = some (.slice (some ⟨w.heap.size + 1, 0, none⟩) e.xs.length e.xs.length) := below_cell (albl' _ _) (by simp [go_sem, x9])
  have y0 := d0 0 (by omega) _ x0
  have y1 := d0 1 (by omega) _ x1
  have y2 := d0 2 (by omega) _ x2
  have y3 := d0 3 (by omega) _ x3
  have y4 := d0 4 (by omega) _ x4
  have y5 := d0 5 (by omega) _ x5
  have y6 := d0 6 (by omega) _ x6
  have y7 := d0 7 (by omega) _ x7
  have y8 := d0 8 (by omega) _ x8
  have HB3 : Hid (Below w.heap.size w ((W.setCell ⟨w.heap.size, 9, none⟩ (.slice (some ⟨w.heap.size + 1, 0, none⟩) e.xs.length e.xs.length)).alloc (.cells (madeCells zCells (e.xs.length * 10)) 26))) := (HB.out.setCell (p := ⟨w.heap.size, 9, none⟩) (Nat.le_refl _) _).alloc (by simp [World.setCell]; omega) _
  have HH : Hid (((W.setCell ⟨w.heap.size, 9, none⟩ (.slice (some ⟨w.heap.size + 1, 0, none⟩) e.xs.length e.xs.length)).alloc (.cells (madeCells zCells (e.xs.length * 10)) 26)).heap[w.heap.size + 1]? = some (.cells (madeCells zCells (e.xs.length * 10)) 26 (0, 0))) := by
    have := heap_alloc_new (W.setCell ⟨w.heap.size, 9, none⟩ (.slice (some ⟨w.heap.size + 1, 0, none⟩) e.xs.length e.xs.length)) (.cells (madeCells zCells (e.xs.length * 10)) 26)
    rw [show (W.setCell ⟨w.heap.size, 9, none⟩ (.slice (some ⟨w.heap.size + 1, 0, none⟩) e.xs.length e.xs.length)).heap.size = w.heap.size + 1 by simp [World.setCell]; omega] at this
    exact this
  have hX3l : w.heap.size < ((W.setCell ⟨w.heap.size, 9, none⟩ (.slice (some ⟨w.heap.size + 1, 0, none⟩) e.xs.length e.xs.length)).alloc (.cells (madeCells zCells (e.xs.length * 10)) 26)).heap.size := cell_lt d9
  clear d0 x0 x1 x2 x3 x4 x5 x6 x7 x8 x9 hfz
  generalize (W.setCell ⟨w.heap.size, 9, none⟩ (.slice (some ⟨w.heap.size + 1, 0, none⟩) e.xs.length e.xs.length)).alloc (.cells (madeCells zCells (e.xs.length * 10)) 26) = X at *
  have hT : Tb X := TB.out.below HB3.out
  have T1 := print_gen (w := X) 0 e.c e.y e.k e.op e.v e.t e.n (List.replicate e.xs.length zeroE) (some ⟨w.heap.size + 1, 0, none⟩) e.xs.length HV.out (fun x hx => by rw [List.eq_of_mem_replicate hx]; exact okE_zero) (HZ.out _ _ HH.out) hT.gl hT.rd HPL.out
  rw [List.length_replicate] at T1
  have HS := HNE.out
  generalize (⟨(prE ⟨e.k, e.op, e.v, e.t, e.n, List.replicate e.xs.length zeroE⟩).toArray⟩ : ByteArray) = s at *
  have T2 := hid T1
  clear T1 HNE HZ hT HPL hmk HH
  have HE : Hid (s.toList.isEmpty = noneB e) := by
    show _ = _
    rw [Bool.eq_iff_iff, List.isEmpty_iff, HS]
  clear HS
  go_wp2_with (first
    | (go_at_call 62; with_reducible refine T2.out.mono ?_; rintro r w2 ⟨rfl, b2⟩; have HB4 := hid b2; clear b2)
    | fail)
  go_ret
  refine ⟨(show _ = Ending.returned (.bool s.toList.isEmpty) from rfl).trans ?_, HB3.out.trans (HB4.out.mono HB3.out.size)⟩
  rw [HE.out]
end Go.Proofs.YtblkhlhhlalbkaaGreatDoor
