/- What the document's Decode does. Condition: the bytes lie within the reach. -/
import Derived.Test.YtilmlegkkgiahaaNdRNodeL
import Derived.Test.YtilmlegkkgiahaaNdRNodeI
import Derived.Test.YtilmlegkkgiahaaNWritesWalk
import Derived.Test.YtilmlegkkgiahaaNdDec
namespace Go.Proofs.Ytilmlegkkgiahaa
open Go.RowKit Go.Lib
set_option linter.unusedVariables false
set_option maxRecDepth 20000

theorem dnode_any (rb : Nat) (s : List UInt8 × Bool) (w : World) (hR : Rr w (· < rb) rb s) :
    Calls Try.prog 38 #[.pointer (some ⟨rb, 0, none⟩)] w (rrEnd (NodeP w.heap.size) (· < rb) rb (nodeD s) w) := by
  by_cases h : leN (tkD 1 s).1 = 1
  · exact dnode_leaf rb s w hR h
  · exact dnode_inner rb s w hR h
/-- Whether the document takes what it has read. -/
def takes (l : List UInt8) : Bool := (nodeD (l, true)).2.2 && (decide ((nodeD (l, true)).1.err = 0) && decide (encB (nodeD (l, true)).1 = l))
theorem takes_some {l : List UInt8} {n : Nd} (h : decN l = some n) : takes l = true ∧ (nodeD (l, true)).1 = n := by
  obtain ⟨hr, hl⟩ := decN_sound h
  have hp : ∃ r, parse l = some (n, r) := by
    have := parse_load hr
    rw [hl] at this
    cases hx : parse l with
    | none => rw [hx] at this; cases this
    | some y =>
      rw [hx] at this
      simp only [Option.map_some, Option.some.injEq] at this
      exact ⟨y.2, by rw [← this]⟩
  obtain ⟨r, hp⟩ := hp
  have e := nodeD_ok hp
  have h0 := (Nd.right_iff n).1 hr
  have hb : encB n = l := by unfold encB; rw [if_pos h0, hl]
  unfold takes
  rw [e]
  simp [h0, hb]
theorem takes_none {l : List UInt8} (h : decN l = none) : takes l = false := by
  cases ht : takes l with
  | false => rfl
  | true =>
    exfalso
    unfold takes at ht
    simp only [Bool.and_eq_true, decide_eq_true_eq] at ht
    obtain ⟨_, h1, h2⟩ := ht
    unfold encB at h2
    rw [if_pos h1] at h2
    have := decN_iff.2 ⟨(Nd.right_iff _).2 h1, h2⟩
    rw [h] at this
    cases this
theorem rr_new {w : World} {F : Nat → Prop} {v : Value} {l : List UInt8} (h : BV w F v l) : Rr (w.alloc (.cells #[v, .bool true] 74)) (· < w.heap.size) w.heap.size (l, true) :=
  ⟨⟨v, by simp [go_sem], h.old.below (alloc_below w _)⟩, by simp [go_sem], fun o => frozen_of_row _ _ o _ _ (heap_alloc_new w _), Nat.lt_irrefl _⟩
set_option maxHeartbeats 4000000 in
theorem rdec_b1 {F : Nat → Prop} (v : Value) (l : List UInt8) (w : World) (h : BV w F v l) (hd : decN l = none) (hq : (nodeD (l, true)).2.2 = false) :
    Calls Try.prog 20 #[v] w (dnEnd l w) := by
  have HD := hid hd
  clear hd
  have HV := hid h.old
  have HZ0 := hid (Bw.new w (.bool false) (.slice none 0 0) (.slice none 0 0) (.slice none 0 0) 26)
  have R0 := rr_new (h.below (alloc_below w (.cells #[.bool false, .slice none 0 0, .slice none 0 0, .slice none 0 0] 26)))
  rw [size1] at R0
  have A1 := hid (dnode_any (w.heap.size + 1) (l, true) _ R0)
  have HS2 : Hid (((w.alloc (.cells #[.bool false, .slice none 0 0, .slice none 0 0, .slice none 0 0] 26)).alloc (.cells #[v, .bool true] 74)).heap.size = w.heap.size + 2) := by show _ = _; simp
  have HZ1 := hid (HZ0.out.alc (.cells #[v, .bool true] 74))
  have HC1 : Hid (Chg (· = w.heap.size + 1) w ((w.alloc (.cells #[.bool false, .slice none 0 0, .slice none 0 0, .slice none 0 0] 26)).alloc (.cells #[v, .bool true] 74))) := Chg.of_below (below2 w _ _)
  have HVk : Hid (∀ k, k < w.heap.size → ¬ k = w.heap.size + 1) := fun k hk e => by omega
  obtain ⟨p0, c0, rfl⟩ := h.shape
  have HT : Hid (takes l = ((nodeD (l, true)).2.2 && (decide ((nodeD (l, true)).1.err = 0) && decide (encB (nodeD (l, true)).1 = l)))) := rfl
  unfold rrEnd at A1
  generalize nodeD (l, true) = nd at *
  obtain ⟨n, s1⟩ := nd
  simp only at A1 HT
  have A2f := hid (fun w' cv kv dv (G : Nat → Prop) (N : NV w' G cv kv dv n) => (rencode_any cv kv dv n w' N).mono (fun e w'' q => ebEnd.uni q))
  unfold ebUni at A2f
  have HLe := hid (encB_len n)
  simp only at hq
  obtain ⟨s11, s12⟩ := s1
  simp only at hq
  subst hq
  go_enter Try.func20, Try.ntmps20
  go_wp2_with (first
    | (go_at_call 38; with_reducible refine A1.out.mono ?_; rintro e w3 ⟨v3, rfl, n3, r3, k3⟩; obtain ⟨p1, c1, p2, c2, p3, c3, hv3, N3⟩ := n3.parts; subst hv3; have HBx := hid (alloc_below w3 (.cells #[.bool n.leaf, .slice p1 n.cells.length c1, .slice p2 n.keys.length c2, .slice p3 n.kids.length c3] 26)); have HX3 := hid (Bw.new w3 (.bool n.leaf) (.slice p1 n.cells.length c1) (.slice p2 n.keys.length c2) (.slice p3 n.kids.length c3) 26); obtain ⟨x0, x1, x2, x3⟩ := HX3.out.bx.get; have HN3 := hid (N3.below HBx.out); have HR3 := hid (r3.below HBx.out); have HZ3 := hid ((HZ1.out.chg k3 (show ¬ w.heap.size = w.heap.size + 1 by omega)).bel HBx.out); have HC3 := hid ((HC1.out.trans k3 (fun j hj e => e)).alloc (.cells #[.bool n.leaf, .slice p1 n.cells.length c1, .slice p2 n.keys.length c2, .slice p3 n.kids.length c3] 26)); have hsz3 : w.heap.size + 2 ≤ w3.heap.size := (by have h1 := k3.size; rw [HS2.out] at h1; exact h1); have A2 := hid (A2f.out _ _ _ _ _ HN3.out); clear n3 r3 k3 N3 A1)
    | (go_at_call 11; with_reducible refine A2.out.mono ?_; rintro e w5 ⟨b5, vb, rfl, ob⟩; obtain ⟨pb, cb, hvb, _⟩ := ob.form; subst hvb; have HR5 := hid (HR3.out.below b5); have rok := HR5.out.ok; have v1 := (ob.bv (Nat.le_trans HLe.out (by decide))).conv; have v2 := (HV.out.kp (Kp.of_chg HC3.out HVk.out)).below b5 |>.conv; have HN5 := hid (HN3.out.below b5); have HX5 := hid (HX3.out.bel b5); have HZ5 := hid (HZ3.out.bel b5); have HC5 := hid (HC3.out.trans (Chg.of_below (F := (· = w.heap.size + 1)) b5) (fun j hj e => e)); have hsz5 : w3.heap.size < w5.heap.size := HX5.out.lt; clear b5 ob A2 x0 x1 x2 x3; obtain ⟨⟨z0, z1, z2, z3⟩, zf⟩ := HZ5.out; have y0 := zf 0; have y1 := zf 1; have y2 := zf 2; have y3 := zf 3; obtain ⟨⟨x0, x1, x2, x3⟩, _⟩ := HX5.out)
    | fail)
  refine bodyPost_ret (by simp [results, Try.results20, go_sem, z0, z1, z2, z3]; try rfl) rfl ?_
  exact ⟨(chg_put4 HC5.out (Nat.le_refl _) _ _ _ _).below (fun k e => by have e' : k = w.heap.size + 1 := e; omega) (Nat.le_refl _), Nd.none, 10, _, _, _, rfl, NV.none _ _ false, Or.inr ⟨HD.out, rfl, rfl⟩⟩
set_option maxHeartbeats 4000000 in
theorem rdec_b2 {F : Nat → Prop} (v : Value) (l : List UInt8) (w : World) (h : BV w F v l) (hd : decN l = none) (hq : (nodeD (l, true)).2.2 = true) (hq2 : (nodeD (l, true)).1.err ≠ 0) :
    Calls Try.prog 20 #[v] w (dnEnd l w) := by
  have HD := hid hd
  clear hd
  have HV := hid h.old
  have HZ0 := hid (Bw.new w (.bool false) (.slice none 0 0) (.slice none 0 0) (.slice none 0 0) 26)
  have R0 := rr_new (h.below (alloc_below w (.cells #[.bool false, .slice none 0 0, .slice none 0 0, .slice none 0 0] 26)))
  rw [size1] at R0
  have A1 := hid (dnode_any (w.heap.size + 1) (l, true) _ R0)
  have HS2 : Hid (((w.alloc (.cells #[.bool false, .slice none 0 0, .slice none 0 0, .slice none 0 0] 26)).alloc (.cells #[v, .bool true] 74)).heap.size = w.heap.size + 2) := by show _ = _; simp
  have HZ1 := hid (HZ0.out.alc (.cells #[v, .bool true] 74))
  have HC1 : Hid (Chg (· = w.heap.size + 1) w ((w.alloc (.cells #[.bool false, .slice none 0 0, .slice none 0 0, .slice none 0 0] 26)).alloc (.cells #[v, .bool true] 74))) := Chg.of_below (below2 w _ _)
  have HVk : Hid (∀ k, k < w.heap.size → ¬ k = w.heap.size + 1) := fun k hk e => by omega
  obtain ⟨p0, c0, rfl⟩ := h.shape
  have HT : Hid (takes l = ((nodeD (l, true)).2.2 && (decide ((nodeD (l, true)).1.err = 0) && decide (encB (nodeD (l, true)).1 = l)))) := rfl
  unfold rrEnd at A1
  generalize nodeD (l, true) = nd at *
  obtain ⟨n, s1⟩ := nd
  simp only at A1 HT
  have A2f := hid (fun w' cv kv dv (G : Nat → Prop) (N : NV w' G cv kv dv n) => (rencode_any cv kv dv n w' N).mono (fun e w'' q => ebEnd.uni q))
  unfold ebUni at A2f
  have HLe := hid (encB_len n)
  simp only at hq hq2
  obtain ⟨s11, s12⟩ := s1
  simp only at hq
  subst hq
  have her0 : (n.err != 0) = true := bne_iff_ne.2 hq2
  clear hq2
  go_enter Try.func20, Try.ntmps20
  go_wp2_with (first
    | (go_at_call 38; with_reducible refine A1.out.mono ?_; rintro e w3 ⟨v3, rfl, n3, r3, k3⟩; obtain ⟨p1, c1, p2, c2, p3, c3, hv3, N3⟩ := n3.parts; subst hv3; have HBx := hid (alloc_below w3 (.cells #[.bool n.leaf, .slice p1 n.cells.length c1, .slice p2 n.keys.length c2, .slice p3 n.kids.length c3] 26)); have HX3 := hid (Bw.new w3 (.bool n.leaf) (.slice p1 n.cells.length c1) (.slice p2 n.keys.length c2) (.slice p3 n.kids.length c3) 26); obtain ⟨x0, x1, x2, x3⟩ := HX3.out.bx.get; have HN3 := hid (N3.below HBx.out); have HR3 := hid (r3.below HBx.out); have HZ3 := hid ((HZ1.out.chg k3 (show ¬ w.heap.size = w.heap.size + 1 by omega)).bel HBx.out); have HC3 := hid ((HC1.out.trans k3 (fun j hj e => e)).alloc (.cells #[.bool n.leaf, .slice p1 n.cells.length c1, .slice p2 n.keys.length c2, .slice p3 n.kids.length c3] 26)); have hsz3 : w.heap.size + 2 ≤ w3.heap.size := (by have h1 := k3.size; rw [HS2.out] at h1; exact h1); have A2 := hid (A2f.out _ _ _ _ _ HN3.out); clear n3 r3 k3 N3 A1)
    | (go_at_call 11; with_reducible refine A2.out.mono ?_; rintro e w5 ⟨b5, vb, rfl, ob⟩; obtain ⟨pb, cb, hvb, _⟩ := ob.form; subst hvb; have HR5 := hid (HR3.out.below b5); have rok := HR5.out.ok; have v1 := (ob.bv (Nat.le_trans HLe.out (by decide))).conv; have v2 := (HV.out.kp (Kp.of_chg HC3.out HVk.out)).below b5 |>.conv; have HN5 := hid (HN3.out.below b5); have HX5 := hid (HX3.out.bel b5); have HZ5 := hid (HZ3.out.bel b5); have HC5 := hid (HC3.out.trans (Chg.of_below (F := (· = w.heap.size + 1)) b5) (fun j hj e => e)); have hsz5 : w3.heap.size < w5.heap.size := HX5.out.lt; clear b5 ob A2 x0 x1 x2 x3; obtain ⟨⟨z0, z1, z2, z3⟩, zf⟩ := HZ5.out; have y0 := zf 0; have y1 := zf 1; have y2 := zf 2; have y3 := zf 3; obtain ⟨⟨x0, x1, x2, x3⟩, _⟩ := HX5.out)
    | fail)
  refine bodyPost_ret (by simp [results, Try.results20, go_sem, z0, z1, z2, z3]; try rfl) rfl ?_
  exact ⟨(chg_put4 HC5.out (Nat.le_refl _) _ _ _ _).below (fun k e => by have e' : k = w.heap.size + 1 := e; omega) (Nat.le_refl _), Nd.none, 10, _, _, _, rfl, NV.none _ _ false, Or.inr ⟨HD.out, rfl, rfl⟩⟩
set_option maxHeartbeats 4000000 in
theorem rdec_b3 {F : Nat → Prop} (v : Value) (l : List UInt8) (w : World) (h : BV w F v l) (hd : decN l = none) (hq : (nodeD (l, true)).2.2 = true) (hq2 : (nodeD (l, true)).1.err = 0) (hq3 : encB (nodeD (l, true)).1 ≠ l) :
    Calls Try.prog 20 #[v] w (dnEnd l w) := by
  have HD := hid hd
  clear hd
  have HV := hid h.old
  have HZ0 := hid (Bw.new w (.bool false) (.slice none 0 0) (.slice none 0 0) (.slice none 0 0) 26)
  have R0 := rr_new (h.below (alloc_below w (.cells #[.bool false, .slice none 0 0, .slice none 0 0, .slice none 0 0] 26)))
  rw [size1] at R0
  have A1 := hid (dnode_any (w.heap.size + 1) (l, true) _ R0)
  have HS2 : Hid (((w.alloc (.cells #[.bool false, .slice none 0 0, .slice none 0 0, .slice none 0 0] 26)).alloc (.cells #[v, .bool true] 74)).heap.size = w.heap.size + 2) := by show _ = _; simp
  have HZ1 := hid (HZ0.out.alc (.cells #[v, .bool true] 74))
  have HC1 : Hid (Chg (· = w.heap.size + 1) w ((w.alloc (.cells #[.bool false, .slice none 0 0, .slice none 0 0, .slice none 0 0] 26)).alloc (.cells #[v, .bool true] 74))) := Chg.of_below (below2 w _ _)
  have HVk : Hid (∀ k, k < w.heap.size → ¬ k = w.heap.size + 1) := fun k hk e => by omega
  obtain ⟨p0, c0, rfl⟩ := h.shape
  have HT : Hid (takes l = ((nodeD (l, true)).2.2 && (decide ((nodeD (l, true)).1.err = 0) && decide (encB (nodeD (l, true)).1 = l)))) := rfl
  unfold rrEnd at A1
  generalize nodeD (l, true) = nd at *
  obtain ⟨n, s1⟩ := nd
  simp only at A1 HT
  have A2f := hid (fun w' cv kv dv (G : Nat → Prop) (N : NV w' G cv kv dv n) => (rencode_any cv kv dv n w' N).mono (fun e w'' q => ebEnd.uni q))
  unfold ebUni at A2f
  have HLe := hid (encB_len n)
  simp only at hq hq2 hq3
  obtain ⟨s11, s12⟩ := s1
  simp only at hq
  subst hq
  have hne : (encB n == l) = false := beq_eq_false_iff_ne.2 hq3
  rw [hq2] at A2f
  clear hq2 hq3
  generalize encB n = eb at *
  go_enter Try.func20, Try.ntmps20
  go_wp2_with (first
    | (go_at_call 38; with_reducible refine A1.out.mono ?_; rintro e w3 ⟨v3, rfl, n3, r3, k3⟩; obtain ⟨p1, c1, p2, c2, p3, c3, hv3, N3⟩ := n3.parts; subst hv3; have HBx := hid (alloc_below w3 (.cells #[.bool n.leaf, .slice p1 n.cells.length c1, .slice p2 n.keys.length c2, .slice p3 n.kids.length c3] 26)); have HX3 := hid (Bw.new w3 (.bool n.leaf) (.slice p1 n.cells.length c1) (.slice p2 n.keys.length c2) (.slice p3 n.kids.length c3) 26); obtain ⟨x0, x1, x2, x3⟩ := HX3.out.bx.get; have HN3 := hid (N3.below HBx.out); have HR3 := hid (r3.below HBx.out); have HZ3 := hid ((HZ1.out.chg k3 (show ¬ w.heap.size = w.heap.size + 1 by omega)).bel HBx.out); have HC3 := hid ((HC1.out.trans k3 (fun j hj e => e)).alloc (.cells #[.bool n.leaf, .slice p1 n.cells.length c1, .slice p2 n.keys.length c2, .slice p3 n.kids.length c3] 26)); have hsz3 : w.heap.size + 2 ≤ w3.heap.size := (by have h1 := k3.size; rw [HS2.out] at h1; exact h1); have A2 := hid (A2f.out _ _ _ _ _ HN3.out); clear n3 r3 k3 N3 A1)
    | (go_at_call 11; with_reducible refine A2.out.mono ?_; rintro e w5 ⟨b5, vb, rfl, ob⟩; obtain ⟨pb, cb, hvb, _⟩ := ob.form; subst hvb; have HR5 := hid (HR3.out.below b5); have rok := HR5.out.ok; have v1 := (ob.bv (Nat.le_trans HLe.out (by decide))).conv; have v2 := (HV.out.kp (Kp.of_chg HC3.out HVk.out)).below b5 |>.conv; have HN5 := hid (HN3.out.below b5); have HX5 := hid (HX3.out.bel b5); have HZ5 := hid (HZ3.out.bel b5); have HC5 := hid (HC3.out.trans (Chg.of_below (F := (· = w.heap.size + 1)) b5) (fun j hj e => e)); have hsz5 : w3.heap.size < w5.heap.size := HX5.out.lt; clear b5 ob A2 x0 x1 x2 x3; obtain ⟨⟨z0, z1, z2, z3⟩, zf⟩ := HZ5.out; have y0 := zf 0; have y1 := zf 1; have y2 := zf 2; have y3 := zf 3; obtain ⟨⟨x0, x1, x2, x3⟩, _⟩ := HX5.out)
    | fail)
  refine bodyPost_ret (by simp [results, Try.results20, go_sem, z0, z1, z2, z3]; try rfl) rfl ?_
  exact ⟨(chg_put4 HC5.out (Nat.le_refl _) _ _ _ _).below (fun k e => by have e' : k = w.heap.size + 1 := e; omega) (Nat.le_refl _), Nd.none, 10, _, _, _, rfl, NV.none _ _ false, Or.inr ⟨HD.out, rfl, rfl⟩⟩
set_option maxHeartbeats 4000000 in
theorem rdec_good {F : Nat → Prop} (v : Value) (l : List UInt8) (w : World) (h : BV w F v l) (hd : decN l = some (nodeD (l, true)).1) (hq : (nodeD (l, true)).2.2 = true) (hq2 : (nodeD (l, true)).1.err = 0) (hq3 : encB (nodeD (l, true)).1 = l) :
    Calls Try.prog 20 #[v] w (dnEnd l w) := by
  have HV := hid h.old
  have HZ0 := hid (Bw.new w (.bool false) (.slice none 0 0) (.slice none 0 0) (.slice none 0 0) 26)
  have R0 := rr_new (h.below (alloc_below w (.cells #[.bool false, .slice none 0 0, .slice none 0 0, .slice none 0 0] 26)))
  rw [size1] at R0
  have A1 := hid (dnode_any (w.heap.size + 1) (l, true) _ R0)
  have HS2 : Hid (((w.alloc (.cells #[.bool false, .slice none 0 0, .slice none 0 0, .slice none 0 0] 26)).alloc (.cells #[v, .bool true] 74)).heap.size = w.heap.size + 2) := by show _ = _; simp
  have HZ1 := hid (HZ0.out.alc (.cells #[v, .bool true] 74))
  have HC1 : Hid (Chg (· = w.heap.size + 1) w ((w.alloc (.cells #[.bool false, .slice none 0 0, .slice none 0 0, .slice none 0 0] 26)).alloc (.cells #[v, .bool true] 74))) := Chg.of_below (below2 w _ _)
  have HVk : Hid (∀ k, k < w.heap.size → ¬ k = w.heap.size + 1) := fun k hk e => by omega
  obtain ⟨p0, c0, rfl⟩ := h.shape
  have HT : Hid (takes l = ((nodeD (l, true)).2.2 && (decide ((nodeD (l, true)).1.err = 0) && decide (encB (nodeD (l, true)).1 = l)))) := rfl
  unfold rrEnd at A1
  generalize nodeD (l, true) = nd at *
  obtain ⟨n, s1⟩ := nd
  simp only at A1 HT
  have A2f := hid (fun w' cv kv dv (G : Nat → Prop) (N : NV w' G cv kv dv n) => (rencode_any cv kv dv n w' N).mono (fun e w'' q => ebEnd.uni q))
  unfold ebUni at A2f
  have HLe := hid (encB_len n)
  simp only at hq hq2 hq3 hd
  have HD := hid hd
  clear hd
  obtain ⟨s11, s12⟩ := s1
  simp only at hq
  subst hq
  rw [hq3, hq2] at A2f
  rw [hq3] at HLe
  clear hq2 hq3
  go_enter Try.func20, Try.ntmps20
  go_wp2_with (first
    | (go_at_call 38; with_reducible refine A1.out.mono ?_; rintro e w3 ⟨v3, rfl, n3, r3, k3⟩; obtain ⟨p1, c1, p2, c2, p3, c3, hv3, N3⟩ := n3.parts; subst hv3; have HBx := hid (alloc_below w3 (.cells #[.bool n.leaf, .slice p1 n.cells.length c1, .slice p2 n.keys.length c2, .slice p3 n.kids.length c3] 26)); have HX3 := hid (Bw.new w3 (.bool n.leaf) (.slice p1 n.cells.length c1) (.slice p2 n.keys.length c2) (.slice p3 n.kids.length c3) 26); obtain ⟨x0, x1, x2, x3⟩ := HX3.out.bx.get; have HN3 := hid (N3.below HBx.out); have HR3 := hid (r3.below HBx.out); have HZ3 := hid ((HZ1.out.chg k3 (show ¬ w.heap.size = w.heap.size + 1 by omega)).bel HBx.out); have HC3 := hid ((HC1.out.trans k3 (fun j hj e => e)).alloc (.cells #[.bool n.leaf, .slice p1 n.cells.length c1, .slice p2 n.keys.length c2, .slice p3 n.kids.length c3] 26)); have hsz3 : w.heap.size + 2 ≤ w3.heap.size := (by have h1 := k3.size; rw [HS2.out] at h1; exact h1); have A2 := hid (A2f.out _ _ _ _ _ HN3.out); clear n3 r3 k3 N3 A1)
    | (go_at_call 11; with_reducible refine A2.out.mono ?_; rintro e w5 ⟨b5, vb, rfl, ob⟩; obtain ⟨pb, cb, hvb, _⟩ := ob.form; subst hvb; have HR5 := hid (HR3.out.below b5); have rok := HR5.out.ok; have v1 := (ob.bv (Nat.le_trans HLe.out (by decide))).conv; have v2 := (HV.out.kp (Kp.of_chg HC3.out HVk.out)).below b5 |>.conv; have HN5 := hid (HN3.out.below b5); have HX5 := hid (HX3.out.bel b5); have HZ5 := hid (HZ3.out.bel b5); have HC5 := hid (HC3.out.trans (Chg.of_below (F := (· = w.heap.size + 1)) b5) (fun j hj e => e)); have hsz5 : w3.heap.size < w5.heap.size := HX5.out.lt; clear b5 ob A2 x0 x1 x2 x3; obtain ⟨⟨z0, z1, z2, z3⟩, zf⟩ := HZ5.out; have y0 := zf 0; have y1 := zf 1; have y2 := zf 2; have y3 := zf 3; obtain ⟨⟨x0, x1, x2, x3⟩, _⟩ := HX5.out)
    | fail)
  have HNV : Hid (∀ y0 y1 y2 y3, NV ((((w5.setCell ⟨w.heap.size, 0, none⟩ y0).setCell ⟨w.heap.size, 1, none⟩ y1).setCell ⟨w.heap.size, 2, none⟩ y2).setCell ⟨w.heap.size, 3, none⟩ y3) (w.heap.size ≤ ·) (.slice p1 n.cells.length c1) (.slice p2 n.keys.length c2) (.slice p3 n.kids.length c3) n) := fun y0 y1 y2 y3 => by
    have K := Kp.of_chg (F := fun j => w.heap.size + 2 ≤ j) (chg4 w5 w.heap.size y0 y1 y2 y3) (fun j hj e => by have e' : j = w.heap.size := e; omega)
    exact ((HN5.out.mono (fun j _ hj => by have h1 : _ ≤ j := hj; rw [HS2.out] at h1; exact h1)).kp K).mono (fun j _ hj => by have h1 : w.heap.size + 2 ≤ j := hj; omega)
  refine bodyPost_ret (by simp [results, Try.results20, go_sem, z0, z1, z2, z3]; try rfl) rfl ?_
  exact ⟨(chg_put4 HC5.out (Nat.le_refl _) _ _ _ _).below (fun k e => by have e' : k = w.heap.size + 1 := e; omega) (Nat.le_refl _), n, 0, _, _, _, rfl, HNV.out _ _ _ _, Or.inl ⟨HD.out, rfl⟩⟩
theorem rdecode_any {F : Nat → Prop} (v : Value) (l : List UInt8) (w : World) (h : BV w F v l) :
    Calls Try.prog 20 #[v] w (dnEnd l w) := by
  cases hd : decN l with
  | none =>
    have ht := takes_none hd
    unfold takes at ht
    cases hq : (nodeD (l, true)).2.2 with
    | false => exact rdec_b1 v l w h hd hq
    | true =>
      by_cases hq2 : (nodeD (l, true)).1.err = 0
      · by_cases hq3 : encB (nodeD (l, true)).1 = l
        · rw [hq, decide_eq_true hq2, decide_eq_true hq3] at ht
          cases ht
        · exact rdec_b3 v l w h hd hq hq2 hq3
      · exact rdec_b2 v l w h hd hq hq2
  | some n =>
    obtain ⟨ht, hn⟩ := takes_some hd
    unfold takes at ht
    simp only [Bool.and_eq_true, decide_eq_true_eq] at ht
    exact rdec_good v l w h (by rw [hd, hn]) ht.1 ht.2.1 ht.2.2
end Go.Proofs.Ytilmlegkkgiahaa
