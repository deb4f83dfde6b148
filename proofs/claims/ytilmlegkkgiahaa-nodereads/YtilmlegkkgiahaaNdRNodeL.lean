/- What the document's reader of nodes does with a leaf. Condition: the bytes lie within the reach. -/
import Derived.Test.YtilmlegkkgiahaaNdRPl
import Derived.Test.YtilmlegkkgiahaaNdLeaf
namespace Go.Proofs.Ytilmlegkkgiahaa
open Go.RowKit Go.Lib
set_option linter.unusedVariables false
set_option maxRecDepth 20000

theorem own_empty1 (w : World) (o : Obj) : OwnB ((w.alloc o).alloc (.cells #[] 5)) (w.heap.size + 1) (.slice (some ⟨w.heap.size + 1, 0, none⟩) 0 0) [] := by
  have h := own_empty (w.alloc o) (w.heap.size + 1) (by simp)
  rw [size1] at h
  exact h
theorem size_set (w : World) (a : Addr) (v : Value) : (w.setCell a v).heap.size = w.heap.size := by simp
theorem size2 (w : World) (o o' : Obj) : w.heap.size + 1 ≤ ((w.alloc o).alloc o').heap.size := by simp
/-- A cell that is being read, in a block of its own. -/
structure Cb (wr w : World) (rb cb : Nat) (kv vv : Value) (key val : List UInt8) (o z : Int) : Prop where
  bw : Bw w cb kv vv (.int .i64 o) (.int .i64 z)
  key : BV w (fun j => wr.heap.size ≤ j ∧ j < cb) kv key
  val : BV w (fun j => wr.heap.size ≤ j ∧ j ≠ cb) vv val
  chg : Chg (· = rb) wr w
  lo : wr.heap.size ≤ cb
  rb : rb < wr.heap.size
theorem Cb.new {wr w : World} {rb : Nat} {kv : Value} {key : List UInt8} {z : Int} (K : BV w (wr.heap.size ≤ ·) kv key) (C : Chg (· = rb) wr w) (hrb : rb < wr.heap.size) : Cb wr (w.alloc (.cells #[kv, .slice none 0 0, .int .i64 0, .int .i64 z] 59)) rb w.heap.size kv (.slice none 0 0) key [] 0 z :=
  ⟨Bw.new w _ _ _ _ _, (K.mono (fun j hj h => ⟨h, hj⟩)).below (alloc_below w _), BV.nil _ _, C.alloc _, C.size, hrb⟩
section
variable {wr w w' : World} {rb cb : Nat} {kv vv : Value} {key val : List UInt8} {o z : Int}
theorem Cb.to (h : Cb wr w rb cb kv vv key val o z) (C : Chg (· = rb) w w') : Cb wr w' rb cb kv vv key val o z := by
  have h1 := h.lo
  have h2 := h.rb
  exact ⟨h.bw.chg C (show ¬ cb = rb by omega), h.key.kp (Kp.of_chg C (fun j hj e => by have e' : j = rb := e; have := hj.1; omega)), h.val.kp (Kp.of_chg C (fun j hj e => by have e' : j = rb := e; have := hj.1; omega)), h.chg.trans C (fun _ _ e => e), h1, h2⟩
theorem Cb.bel (h : Cb wr w rb cb kv vv key val o z) (B : Below w.heap.size w w') : Cb wr w' rb cb kv vv key val o z := h.to (Chg.of_below B)
theorem Cb.set2 (h : Cb wr w rb cb kv vv key val o z) (o' : Int) : Cb wr (w.setCell ⟨cb, 2, none⟩ (.int .i64 o')) rb cb kv vv key val o' z :=
  ⟨h.bw.set2 _, h.key.kp (Kp.of_set (fun q => Nat.lt_irrefl _ q.2)), h.val.kp (Kp.of_set (fun q => q.2 rfl)), h.chg.setCell (p := ⟨cb, 2, none⟩) (Or.inr h.lo) _, h.lo, h.rb⟩
theorem Cb.set1 (h : Cb wr w rb cb kv vv key val o z) {v : Value} {m : List UInt8} (X : BV w (fun j => wr.heap.size ≤ j ∧ j ≠ cb) v m) : Cb wr (w.setCell ⟨cb, 1, none⟩ v) rb cb kv v key m o z :=
  ⟨h.bw.set1 _, h.key.kp (Kp.of_set (fun q => Nat.lt_irrefl _ q.2)), X.kp (Kp.of_set (fun q => q.2 rfl)), h.chg.setCell (p := ⟨cb, 1, none⟩) (Or.inr h.lo) _, h.lo, h.rb⟩
theorem Cb.lt (h : Cb wr w rb cb kv vv key val o z) : cb < w.heap.size := h.bw.lt
theorem Cb.get (h : Cb wr w rb cb kv vv key val o z) : w.cell? ⟨cb, 0, none⟩ = some kv ∧ w.cell? ⟨cb, 1, none⟩ = some vv ∧ w.cell? ⟨cb, 2, none⟩ = some (.int .i64 o) ∧ w.cell? ⟨cb, 3, none⟩ = some (.int .i64 z) := h.bw.bx.get
theorem Cb.belN {H : Nat} (h : Cb wr w rb cb kv (.slice none 0 0) key [] o z) (B : Below H w w') (hc : cb < H) : Cb wr w' rb cb kv (.slice none 0 0) key [] o z := by
  have h1 := h.lo
  exact ⟨h.bw.same (B.block cb hc), h.key.kp (Kp.of_belowN B (fun j hj => by have := hj.2; omega)), BV.nil _ _, chg_bel h.chg (B.mono (by omega)), h1, h.rb⟩
/-- The cell is put behind the others. -/
theorem Cb.app (h : Cb wr w rb cb kv vv key val o z) {wl : World} {xb : Nat} {v : Value} {acc : List Cl} {s : List UInt8 × Bool} (O : OwnC 59 wr wl.heap.size v acc) (X : Bw wr xb (.bool true) v (.slice none 0 0) (.slice none 0 0)) (C : Chg (fun j => j = rb ∨ j = xb) wl wr) (R : Rr w (· < rb) rb s)
    (hw : rb < wl.heap.size) (hx : xb < wl.heap.size) (hxr : rb < xb) (i1 : i64b o) (i2 : i64b z) (hl : (acc.length + 1) * 64 ≤ 140737488351232) (g : Nat) (hg : w.heap.size = g) :
    ∃ v' w', (Builtin.append_ #[22, 22] 22 #[v, .slice (some ⟨g, 0, none⟩) 1 1]).run Try.prog (w.alloc (.cells #[kv, vv, .int .i64 o, .int .i64 z] 59)) = .ok v' w' ∧ OwnC 59 w' wl.heap.size v' (acc ++ [⟨key, val, o, z⟩]) ∧ Bw w' xb (.bool true) v (.slice none 0 0) (.slice none 0 0) ∧ Chg (fun j => j = rb ∨ j = xb) wl w' ∧ Rr w' (· < rb) rb s := by
  subst hg
  have hlo := h.lo
  have hcs := C.size
  have hob : ∀ j, v.ownBlock = some j → wl.heap.size ≤ j ∧ j < wr.heap.size := fun j e => O.lt' e
  have B := alloc_below w (.cells #[kv, vv, .int .i64 o, .int .i64 z] 59)
  have CC := h.chg.alloc (.cells #[kv, vv, .int .i64 o, .int .i64 z] 59)
  have O1 := O.kp (Kp.of_chg CC (fun j hj e => by have h1 : wl.heap.size ≤ j := hj; have h2 : j = rb := e; omega))
  have hF : ∀ j, wr.heap.size ≤ j ∧ j ≠ cb → own' wl.heap.size v j := fun j hj => ⟨by omega, fun e => by have := (hob j e).2; omega⟩
  obtain ⟨v', w', hr, O2, P, B2⟩ := run_appC 22 22 59 Try.underlying22 infoRc (c := ⟨key, val, o, z⟩) O1 w.heap.size 1 (Bx.new w kv vv (.int .i64 o) (.int .i64 z) 59) ⟨(h.key.below B).mono (fun j _ hj => hF j ⟨hj.1, by have := hj.2; omega⟩), (h.val.below B).mono (fun j _ hj => hF j hj), rfl, rfl, i1, i2⟩ hl (Nat.le_trans hcs CC.size)
  have CP := past_chg P
  refine ⟨v', w', hr, O2, (X.chg CC (show ¬ xb = rb by omega)).chg CP (fun e => by have := (hob _ e).1; omega), ?_, ?_⟩
  · exact chgF_past (C.trans CC (fun _ _ e => Or.inl e)) P (fun j e => (hob j e).1)
  · refine (R.below B).kp (Kp.of_chg CP (fun j hj e => ?_))
    have := (hob j e).1
    rcases hj with q | q
    · have q' : j < rb := q; omega
    · omega
end
set_option maxHeartbeats 16000000 in
theorem dnode_leaf (rb : Nat) (s : List UInt8 × Bool) (w : World) (hR : Rr w (· < rb) rb s) (h1 : leN (tkD 1 s).1 = 1) :
    Calls Try.prog 38 #[.pointer (some ⟨rb, 0, none⟩)] w (rrEnd (NodeP w.heap.size) (· < rb) rb (nodeD s) w) := by
  have hrb := hR.lt
  have HRl0 : Hid (rb < w.heap.size) := hrb
  have HB0 := hid (alloc_below w (.cells #[.bool false, .slice none 0 0, .slice none 0 0, .slice none 0 0] 26))
  have HZ0 := hid (Bw.new w (.bool false) (.slice none 0 0) (.slice none 0 0) (.slice none 0 0) 26)
  have T := hid (dtake_any rb 1 s _ (hR.below HB0.out) (by omega))
  rw [show ((1 : Nat) : Int) = 1 from rfl] at T
  unfold rrEnd bvP at T
  have HN : Hid (nodeD s = (⟨true, (cellsD (twoD (tkD 1 s).2).1 (twoD (tkD 1 s).2).2).1, [], []⟩, (cellsD (twoD (tkD 1 s).2).1 (twoD (tkD 1 s).2).2).2)) := if_pos h1
  obtain ⟨x, hx⟩ := one_list (tkD_len 1 s)
  generalize tkD 1 s = t at *
  obtain ⟨t1, t2⟩ := t
  simp only at hx T HN h1
  subst hx
  have hx1 : x.toNat = 1 := by simpa [leN] using h1
  have T2f := hid (fun w1 (R : Rr w1 (· < rb) rb t2) => dtwo_any rb t2 w1 R)
  unfold rrEnd nmP at T2f
  have hK := twoD_lt t2
  generalize twoD t2 = t4 at *
  obtain ⟨K, s4⟩ := t4
  simp only at T2f HN hK
  generalize htot : cellsD K s4 = tot at *
  have HTt := hid htot
  have HN0 : Hid (nodeD s = (⟨true, tot.1, [], []⟩, tot.2)) := HN.out
  clear hR HN h1 htot
  go_enter Try.func38, Try.ntmps38
  go_wp2_with (first
    | (go_at_call 57; with_reducible refine T.out.mono ?_; rintro e w2 ⟨v2, rfl, b2, r2, k2⟩; obtain ⟨p2', c2, hv2⟩ := b2.shape; subst hv2; obtain ⟨b, off, hp, _, g0⟩ := b2.at (i := 0) (by simp); subst hp; simp only [List.getElem_cons_zero, Nat.add_zero, hx1] at g0; rw [show ((1 : Nat) : Int) = 1 from rfl] at g0; have HC2 := hid ((Chg.of_below HB0.out).trans k2 (fun _ _ h => h)); have HZ2 := hid (HZ0.out.chg k2 (show ¬ w.heap.size = rb by omega)); have HXb := hid (Bw.new w2 (.bool true) (.slice none 0 0) (.slice none 0 0) (.slice none 0 0) 26); obtain ⟨l0, l1, l2, l3⟩ := HXb.out.bx.get; have T2 := hid (T2f.out _ (r2.below (alloc_below w2 (.cells #[.bool true, .slice none 0 0, .slice none 0 0, .slice none 0 0] 26)))); have hw2 : w.heap.size < w2.heap.size := HZ2.out.lt; clear r2 k2 b2 T)
    | (go_at_call 58; with_reducible refine T2.out.mono ?_; rintro e w4 ⟨v4, rfl, hn4, r4, k4⟩; subst hn4; have HX4 := hid (HXb.out.chg k4 (show ¬ w2.heap.size = rb by omega)); obtain ⟨m0, m1, m2, m3⟩ := HX4.out.bx.get; have HZ4 := hid ((HZ2.out.alc _).chg k4 (show ¬ w.heap.size = rb by omega)); have HC4 := hid (((HC2.out.alloc _).trans k4 (fun _ _ h => h) : Chg (· = rb) w w4)); have HR4 := hid r4; clear r4 k4 T2 l0 l1 l2 l3)
    | fail)
  have hx4 : w2.heap.size < w4.heap.size := HX4.out.lt
  generalize w2.heap.size = xb at *
  clear HZ2 HC2 HXb HZ0 m0 m1 m2 m3
  go_loopw [5] (fun i wr => ∃ (k : Nat) (acc : List Cl) (s' : List UInt8 × Bool) (cv' : Value), i = .int .i64 (k : Int) ∧ k ≤ K ∧ acc.length ≤ k ∧ Bw wr xb (.bool true) cv' (.slice none 0 0) (.slice none 0 0) ∧ OwnC 59 wr w4.heap.size cv' acc ∧ Rr wr (· < rb) rb s' ∧ (acc ++ (cellsD (K - k) s').1, (cellsD (K - k) s').2) = tot ∧ Chg (fun j => j = rb ∨ j = xb) w4 wr) (fun i _ => K - (RowKit.intOf i).toNat)
  case atStart => exact ⟨0, [], s4, _, rfl, Nat.zero_le _, Nat.le_refl _, HX4.out, OwnC.nil _ _ _, HR4.out, by rw [Nat.sub_zero, HTt.out]; simp, Chg.refl _ _⟩
  case round =>
    clear HR4 HX4 HTt
    obtain ⟨k, acc, s', cv', rfl, hk, hacc, X, O, R, hE, C⟩ := hrel
    obtain ⟨p0, c0, hv0⟩ := own_cform O acc.length rfl
    subst hv0
    have HX := hid X
    have HO := hid O
    have HRr := hid R
    have HE := hid hE
    have HC := hid C
    have HAcc : Hid (acc.length ≤ k ∧ k ≤ K ∧ K < 65536) := ⟨hacc, hk, hK⟩
    have hwr : w4.heap.size ≤ wr.heap.size := C.size
    have hxr : xb < wr.heap.size := X.lt
    have HZr := hid (HZ4.out.chg C (show ¬ (w.heap.size = rb ∨ w.heap.size = xb) by omega))
    have HTot : Hid (∀ w', Chg (· = rb) wr w' → Chg (· = rb) w w') := fun w' C' => (HC4.out.trans C (fun j hj h => h.elim id (fun e => by omega))).trans C' (fun _ _ h => h)
    obtain ⟨xc0, xc1, xc2, xc3⟩ := X.bx.get
    have rok := R.ok
    have hrb4 : rb < w4.heap.size := by omega
    have HRl : Hid (rb < wr.heap.size) := R.lt
    have HRw : Hid (rb < w4.heap.size) := hrb4
    have HXw : Hid (xb < w4.heap.size) := hx4
    have HRx : Hid (rb < xb) := by show _ < _; omega
    clear X O R hE C hacc
    by_cases hx : k < K
    · cases hs : s'.2
      · rw [hs] at rok
        have HSt := hid (cellsD_stop (n := K - k) hs)
        clear hs
        have HP : Hid (tot = (acc, s')) := by
          show _ = _
          rw [← HE.out, HSt.out]
          simp
        obtain ⟨⟨t0, t1, t2, t3⟩, tf⟩ := HX.out
        obtain ⟨⟨z0, z1, z2, z3⟩, zf⟩ := HZr.out
        have y0 := zf 0
        have y1 := zf 1
        have y2 := zf 2
        have y3 := zf 3
        have HNV : Hid (∀ y0 y1 y2 y3, NV ((((wr.setCell ⟨w.heap.size, 0, none⟩ y0).setCell ⟨w.heap.size, 1, none⟩ y1).setCell ⟨w.heap.size, 2, none⟩ y2).setCell ⟨w.heap.size, 3, none⟩ y3) (w.heap.size ≤ ·) (.slice p0 acc.length c0) (.slice none 0 0) (.slice none 0 0) ⟨true, acc, [], []⟩) := fun y0 y1 y2 y3 =>
          ⟨((HO.out.kp (Kp.of_chg (chg4 wr w.heap.size y0 y1 y2 y3) (fun j hj e => by have h1 : w4.heap.size ≤ j := hj; have h2 : j = w.heap.size := e; omega))).csv (by have := HAcc.out; omega)).mono (fun j _ hj => by have h1 : w4.heap.size ≤ j := hj; omega), KsV.nil _ _, DsV.nil _ _⟩
        have HRf : Hid (∀ y0 y1 y2 y3, Rr ((((wr.setCell ⟨w.heap.size, 0, none⟩ y0).setCell ⟨w.heap.size, 1, none⟩ y1).setCell ⟨w.heap.size, 2, none⟩ y2).setCell ⟨w.heap.size, 3, none⟩ y3) (· < rb) rb s') := fun y0 y1 y2 y3 => HRr.out.kp (Kp.of_chg (chg4 wr w.heap.size y0 y1 y2 y3) (fun j hj e => by have h2 : j = w.heap.size := e; rcases hj with h1 | h1 <;> omega))
        have HCf := hid (HTot.out wr (Chg.refl _ _))
        have HT := hid HP.out
        clear HO HE HX HP
        go_wp2
        refine bodyPost_ret (by simp [results, Try.results38, go_sem, z0, z1, z2, z3]; try rfl) rfl ?_
        rw [HN0.out, HT.out]
        exact ⟨_, rfl, ⟨_, _, _, rfl, HNV.out _ _ _ _⟩, HRf.out _ _ _ _, chg_put4 HCf.out (Nat.le_refl _) _ _ _ _⟩
      · rw [hs] at rok
        have HSt := hid hs
        obtain ⟨m, hm⟩ : ∃ m, K - k = m + 1 := ⟨K - k - 1, by omega⟩
        have hm' : K - (k + 1) = m := by omega
        rw [hm] at HE
        have HS : Hid (∀ w', Chg (· = rb) wr w' → w'.cell? ⟨xb, 1, none⟩ = some (.slice p0 acc.length c0)) := fun w' C' => (HX.out.chg C' (show ¬ xb = rb by omega)).bx.c1
        have HKr : Hid (∀ j, wr.heap.size ≤ j → ¬ j = rb) := fun j hj e => by have := HRl.out; omega
        have HRcb : Hid (∀ w6 : World, wr.heap.size ≤ w6.heap.size → ¬ (w6.heap.size < rb ∨ w6.heap.size = rb)) := fun w6 h => by have := HRl.out; omega
        have HRlt : Hid (∀ c, wr.heap.size ≤ c → rb < c + 1) := fun c h => by have := HRl.out; omega
        have HRw6 : Hid (∀ H : Nat, rb < H → ∀ j, (j < rb ∨ j = rb) → j < H) := fun H h j hj => by omega
        have HVj : Hid (∀ (c j : Nat), wr.heap.size ≤ c → c + 1 ≤ j → wr.heap.size ≤ j ∧ j ≠ c) := fun c j h1 h2 => by omega
        have HLk : Hid ((acc.length + 1) * 64 ≤ 140737488351232) := by show _ ≤ _; have := HAcc.out; omega
        have A5 := hid (dkey_any rb s' wr HRr.out)
        unfold rrEnd frP at A5
        have HKy : Hid (keyD s' = keyD s') := rfl
        have A6f := hid (fun w' (R : Rr w' (· < rb) rb (keyD s').2) => dtwo_any rb (keyD s').2 w' R)
        unfold rrEnd nmP at A6f
        have HZ6 : Hid (twoD (keyD s').2 = twoD (keyD s').2) := rfl
        have hZ := twoD_lt (keyD s').2
        generalize hky : keyD s' = t5 at A5 A6f HZ6 hZ
        obtain ⟨ky, s5⟩ := t5
        replace HKy : Hid (keyD s' = (ky, s5)) := hky
        simp only at A5 A6f HZ6 hZ
        generalize hzz : twoD s5 = t6 at A6f HZ6 hZ
        obtain ⟨Z, s6⟩ := t6
        replace HZ6 : Hid (twoD s5 = (Z, s6)) := hzz
        simp only at A6f hZ
        have IZ : Hid (i64b (Z : Int)) := i64_nat hZ
        clear hky hzz hs
        by_cases hz : 64 < Z
        · have A8f := hid (fun w' (R : Rr w' (· < rb) rb s6) => dtwo_any rb s6 w' R)
          unfold rrEnd nmP at A8f
          have HOl := twoD_lt s6
          have HCell : Hid (cellD s' = (⟨ky, [], ((twoD s6).1 : Int), (Z : Int)⟩, (twoD s6).2)) := by
            show _ = _
            unfold cellD
            rw [HKy.out]
            simp only
            rw [HZ6.out]
            exact if_pos hz
          generalize twoD s6 = t8 at *
          obtain ⟨Ov, s9⟩ := t8
          simp only at A8f HCell HOl
          have HE2 : Hid ((acc ++ [⟨ky, [], (Ov : Int), (Z : Int)⟩] ++ (cellsD m s9).1, (cellsD m s9).2) = tot) := by
            show _ = _
            rw [← HE.out, cellsD_go HSt.out, HCell.out]
            simp
          have HLen : Hid ((acc ++ [⟨ky, [], (Ov : Int), (Z : Int)⟩] : List Cl).length = acc.length + 1) := by show _ = _; rw [List.length_append]; rfl
          have IOv : Hid (i64b (Ov : Int)) := i64_nat HOl
          clear HE HCell HKy HZ6
          go_wp2_with (first
            | (go_at_call 59; with_reducible refine A5.out.mono ?_; rintro e w5 ⟨v5, rfl, b5, r5, k5⟩; obtain ⟨p5, c5, hv5⟩ := b5.shape; subst hv5; have HK5 := hid b5; have HC5 := hid k5; have A6 := hid (A6f.out w5 r5); clear b5 k5 r5)
            | (go_at_call 58; with_reducible refine A6.out.mono ?_; rintro e w6 ⟨v6, rfl, hn6, r6, k6⟩; subst hn6; have HCb := hid (Cb.new (z := (Z : Int)) (HK5.out.kp (Kp.of_chg k6 (HKr.out))) (HC5.out.trans k6 (fun _ _ h => h)) HRl.out); obtain ⟨i0, i1, i2, i3⟩ := HCb.out.get; have hcb6 : xb < w6.heap.size := Nat.lt_of_lt_of_le hxr HCb.out.lo; have hc6 := HCb.out.lt; have A8 := hid (A8f.out _ (r6.below (alloc_below w6 (.cells #[.slice p5 ky.length c5, .slice none 0 0, .int .i64 0, .int .i64 (Z : Int)] 59)))); clear r6 k6 A6)
            | (go_at_call 58; with_reducible refine A8.out.mono ?_; rintro e w8 ⟨v8, rfl, hn8, r8, k8⟩; subst hn8; have HCb8 := hid (HCb.out.to k8); obtain ⟨j0, j1, j2, j3⟩ := HCb8.out.get; have jf := HCb8.out.bw.fz 2; have x81 := HS.out w8 HCb8.out.chg; have hcb8 := HCb8.out.lt; have HR8 := hid r8; clear r8 k8 A8 i0 i1 i2 i3)
            | (at_builtin; obtain ⟨v9, w9, hr, O9, X9, C9, R9⟩ := (HCb8.out.set2 (Ov : Int)).app HO.out HX.out HC.out (HR8.out.kp (Kp.of_set (HRcb.out w6 HCb.out.lo))) HRw.out HXw.out HRx.out IOv.out IZ.out HLk.out w8.heap.size (size_set _ _ _); refine wl_run rfl rfl rfl rfl hr ?_; obtain ⟨p9, c9, hv9⟩ := own_cform O9 (acc.length + 1) HLen.out; subst hv9; have q1 := X9.bx.c1; have f1 := X9.fz 1; have HO9 := hid O9; have HX9 := hid X9; have HC9 := hid C9; have HR9 := hid R9; clear hr O9 X9 C9 R9)
            | fail)
          go_roundw
          case rel => exact ⟨k + 1, acc ++ [⟨ky, [], (Ov : Int), (Z : Int)⟩], s9, _, by go_num, by omega, by rw [HLen.out]; have := HAcc.out; omega, HX9.out.set1 _, HO9.out.kp (Kp.of_set (by omega)), HR9.out.kp (Kp.of_set (by omega)), by rw [hm']; exact HE2.out, HC9.out.setCell (p := ⟨xb, 1, none⟩) (Or.inl (Or.inr rfl)) _⟩
          case measure => simp [RowKit.intOf]; omega
        · have A8f := hid (fun w' (R : Rr w' (· < rb) rb s6) => dtake_any rb Z s6 w' R (by omega))
          unfold rrEnd bvP at A8f
          have HVl := tkD_len Z s6
          have HCell : Hid (cellD s' = (⟨ky, (tkD Z s6).1, 0, (Z : Int)⟩, (tkD Z s6).2)) := by
            show _ = _
            unfold cellD
            rw [HKy.out]
            simp only
            rw [HZ6.out]
            exact if_neg hz
          generalize tkD Z s6 = t8 at *
          obtain ⟨vl, s9⟩ := t8
          simp only at A8f HCell HVl
          have HVL : Hid (vl.length ≤ 140737488351232) := by show _ ≤ _; omega
          have HVL0 : Hid (([] : List UInt8).length + vl.length ≤ 140737488351232) := by show _ ≤ _; simp; omega
          have HVE := hid HVl
          clear HVl
          have HE2 : Hid ((acc ++ [⟨ky, vl, 0, (Z : Int)⟩] ++ (cellsD m s9).1, (cellsD m s9).2) = tot) := by
            show _ = _
            rw [← HE.out, cellsD_go HSt.out, HCell.out]
            simp
          have HLen : Hid ((acc ++ [⟨ky, vl, 0, (Z : Int)⟩] : List Cl).length = acc.length + 1) := by show _ = _; rw [List.length_append]; rfl
          have IOv : Hid (i64b 0) := i64_zero
          clear HE HCell HKy HZ6
          go_wp2_with (first
            | (go_at_call 59; with_reducible refine A5.out.mono ?_; rintro e w5 ⟨v5, rfl, b5, r5, k5⟩; obtain ⟨p5, c5, hv5⟩ := b5.shape; subst hv5; have HK5 := hid b5; have HC5 := hid k5; have A6 := hid (A6f.out w5 r5); clear b5 k5 r5)
            | (go_at_call 58; with_reducible refine A6.out.mono ?_; rintro e w6 ⟨v6, rfl, hn6, r6, k6⟩; subst hn6; have HCb := hid (Cb.new (z := (Z : Int)) (HK5.out.kp (Kp.of_chg k6 (HKr.out))) (HC5.out.trans k6 (fun _ _ h => h)) HRl.out); obtain ⟨i0, i1, i2, i3⟩ := HCb.out.get; have hcb6 : xb < w6.heap.size := Nat.lt_of_lt_of_le hxr HCb.out.lo; have hc6 := HCb.out.lt; have A8 := hid (A8f.out _ ((r6.below (alloc_below w6 (.cells #[.slice p5 ky.length c5, .slice none 0 0, .int .i64 0, .int .i64 (Z : Int)] 59))).below (alloc_below (w6.alloc (.cells #[.slice p5 ky.length c5, .slice none 0 0, .int .i64 0, .int .i64 (Z : Int)] 59)) (.cells #[] 5)))); have HO7 := hid (own_empty1 w6 (.cells #[.slice p5 ky.length c5, .slice none 0 0, .int .i64 0, .int .i64 (Z : Int)] 59)); have HCb7 := hid (HCb.out.bel (alloc_below (w6.alloc (.cells #[.slice p5 ky.length c5, .slice none 0 0, .int .i64 0, .int .i64 (Z : Int)] 59)) (.cells #[] 5))); have HrW := hid (HRlt.out _ HCb.out.lo); have HW7 := hid (size2 w6 (.cells #[.slice p5 ky.length c5, .slice none 0 0, .int .i64 0, .int .i64 (Z : Int)] 59) (.cells #[] 5)); clear r6 k6 A6)
            | (go_at_call 57; with_reducible refine A8.out.mono ?_; rintro e w8 ⟨v8, rfl, b8, r8, k8⟩; obtain ⟨p8, c8, hv8⟩ := b8.shape; subst hv8; have HCb8 := hid (HCb7.out.to k8); have HO8 := hid (HO7.out.chg k8 HrW.out); have HV8 := hid b8; have HR8 := hid r8; have HW8 := hid (Nat.le_trans HW7.out k8.size); clear r8 k8 b8 A8 i0 i1 i2 i3)
            | (at_builtin; obtain ⟨v7, w7, hr, O7, P7, B7⟩ := run_appY 31 HO8.out HV8.out HVL0.out HW8.out; refine wl_run rfl rfl rfl rfl hr ?_; obtain ⟨p7, c7, hv7⟩ := O7.formN vl.length rfl; subst hv7; have HCb9 := hid (HCb8.out.belN B7 (Nat.lt_succ_self _)); obtain ⟨j0, j1, j2, j3⟩ := HCb9.out.get; have jf := HCb9.out.bw.fz 1; have x81 := HS.out w7 HCb9.out.chg; have hcb8 := HCb9.out.lt; have HR7 := hid (HR8.out.kp (Kp.of_belowN B7 (HRw6.out _ HrW.out))); have HV7 := hid ((O7.bv HVL.out).mono (fun j _ hj => HVj.out w6.heap.size j HCb.out.lo hj)); clear hr O7 P7 B7 HO8 HV8)
            | (at_builtin; obtain ⟨v9, w9, hr, O9, X9, C9, R9⟩ := (HCb9.out.set1 HV7.out).app HO.out HX.out HC.out (HR7.out.kp (Kp.of_set (HRcb.out w6 HCb.out.lo))) HRw.out HXw.out HRx.out IOv.out IZ.out HLk.out w7.heap.size (size_set _ _ _); refine wl_run rfl rfl rfl rfl hr ?_; obtain ⟨p9, c9, hv9⟩ := own_cform O9 (acc.length + 1) HLen.out; subst hv9; have q1 := X9.bx.c1; have f1 := X9.fz 1; have HO9 := hid O9; have HX9 := hid X9; have HC9 := hid C9; have HR9 := hid R9; clear hr O9 X9 C9 R9)
            | fail)
          go_roundw
          case rel => exact ⟨k + 1, acc ++ [⟨ky, vl, 0, (Z : Int)⟩], s9, _, by go_num, by omega, by rw [HLen.out]; have := HAcc.out; omega, HX9.out.set1 _, HO9.out.kp (Kp.of_set (by omega)), HR9.out.kp (Kp.of_set (by omega)), by rw [hm']; exact HE2.out, HC9.out.setCell (p := ⟨xb, 1, none⟩) (Or.inl (Or.inr rfl)) _⟩
          case measure => simp [RowKit.intOf]; omega
    · obtain rfl : k = K := by omega
      have HP : Hid (tot = (acc, s')) := by
        show _ = _
        rw [← HE.out, Nat.sub_self, show cellsD 0 s' = ([], s') from rfl]
        simp
      obtain ⟨⟨t0, t1, t2, t3⟩, tf⟩ := HX.out
      obtain ⟨⟨z0, z1, z2, z3⟩, zf⟩ := HZr.out
      have y0 := zf 0
      have y1 := zf 1
      have y2 := zf 2
      have y3 := zf 3
      have HNV : Hid (∀ y0 y1 y2 y3, NV ((((wr.setCell ⟨w.heap.size, 0, none⟩ y0).setCell ⟨w.heap.size, 1, none⟩ y1).setCell ⟨w.heap.size, 2, none⟩ y2).setCell ⟨w.heap.size, 3, none⟩ y3) (w.heap.size ≤ ·) (.slice p0 acc.length c0) (.slice none 0 0) (.slice none 0 0) ⟨true, acc, [], []⟩) := fun y0 y1 y2 y3 =>
        ⟨((HO.out.kp (Kp.of_chg (chg4 wr w.heap.size y0 y1 y2 y3) (fun j hj e => by have h1 : w4.heap.size ≤ j := hj; have h2 : j = w.heap.size := e; omega))).csv (by have := HAcc.out; omega)).mono (fun j _ hj => by have h1 : w4.heap.size ≤ j := hj; omega), KsV.nil _ _, DsV.nil _ _⟩
      have HRf : Hid (∀ y0 y1 y2 y3, Rr ((((wr.setCell ⟨w.heap.size, 0, none⟩ y0).setCell ⟨w.heap.size, 1, none⟩ y1).setCell ⟨w.heap.size, 2, none⟩ y2).setCell ⟨w.heap.size, 3, none⟩ y3) (· < rb) rb s') := fun y0 y1 y2 y3 => HRr.out.kp (Kp.of_chg (chg4 wr w.heap.size y0 y1 y2 y3) (fun j hj e => by have h2 : j = w.heap.size := e; rcases hj with h1 | h1 <;> omega))
      have HCf := hid (HTot.out wr (Chg.refl _ _))
      have HT := hid HP.out
      clear HO HE HX HP
      go_wp2
      refine bodyPost_ret (by simp [results, Try.results38, go_sem, z0, z1, z2, z3]; try rfl) rfl ?_
      rw [HN0.out, HT.out]
      exact ⟨_, rfl, ⟨_, _, _, rfl, HNV.out _ _ _ _⟩, HRf.out _ _ _ _, chg_put4 HCf.out (Nat.le_refl _) _ _ _ _⟩
end Go.Proofs.Ytilmlegkkgiahaa
