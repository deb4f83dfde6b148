/- EvalPart: the walk of the law. Conditions: lists within the reach. -/
import Derived.Test.YthnmicadlcmecaaGreatDoorEH
import Derived.Test.YthnmicadlcmecaaGreatDoorEvPartP
import Derived.StillTailTactics
namespace Go.Proofs.YthnmicadlcmecaaGreatDoor
open Go.RowKit Go.Lib Go.Sort
set_option linter.unusedVariables false
set_option maxRecDepth 20000

/-- A row of numbers in memory. -/
def ZR (w : World) (p : Option Addr) (l : List Int) : Prop := l = [] ∨ ∃ b off, p = some ⟨b, off, none⟩ ∧ ∀ i (h : i < l.length), w.cell? ⟨b, off + i, none⟩ = some (.int .i64 l[i])
theorem ZR.below {w w' : World} {p : Option Addr} {l : List Int} (h : ZR w p l) (B : Below w.heap.size w w') : ZR w' p l := by
  rcases h with h | ⟨b, off, hp, hc⟩
  · exact Or.inl h
  · exact Or.inr ⟨b, off, hp, fun i hi => below_cell B (hc i hi)⟩
theorem ZR.at {w : World} {p : Option Addr} {l : List Int} (h : ZR w p l) {i : Nat} (hi : i < l.length) : ∃ b off, p = some ⟨b, off, none⟩ ∧ w.cell? ⟨b, off + i, none⟩ = some (.int .i64 l[i]) := by
  rcases h with h | ⟨b, off, hp, hc⟩
  · subst h; simp at hi
  · exact ⟨b, off, hp, hc i hi⟩
theorem way_at (z : Int) (n : Nat) (hn : 0 < n) (hb : n ≤ 1048576) : IntKind.u64.wrap (n : Int) = (n : Int) ∧ ∃ k : Nat, k < n ∧ (IntKind.u64.wrap z).tmod (n : Int) = (k : Int) ∧ IntKind.i64.wrap (k : Int) = (k : Int) := by
  refine ⟨by rw [IntKind.wrap_u64]; omega, ((IntKind.u64.wrap z).tmod (n : Int)).toNat, ?_⟩
  rw [IntKind.wrap_u64, Int.tmod_eq_emod_of_nonneg (by omega)]
  have h0 := Int.emod_nonneg (z % 18446744073709551616) (show (n : Int) ≠ 0 by omega)
  have h1 := Int.emod_lt_of_pos (z % 18446744073709551616) (show (0 : Int) < (n : Int) by omega)
  generalize z % 18446744073709551616 % (n : Int) = r at *
  refine ⟨by omega, by omega, by rw [IntKind.wrap_i64]; omega⟩
theorem BGx.put {w : World} {b : Nat} {e : Gx} {p : Option Addr} {c : Nat} (h : BGx w b e p c) (e' : Gx) (p' : Option Addr) (c' : Nat) : BGx (put10 w b (.int .i64 e'.k) (.int .i64 e'.op) (.int .i64 e'.v.k) (.int .i64 e'.v.n) (.string e'.v.s) (.string ⟨e'.t.toArray⟩) (.string ⟨e'.n.toArray⟩) (.int .i64 e'.c) (.int .i64 e'.y) (.slice p' e'.xs.length c')) b e' p' c' := by
  unfold put10
  have st : ∀ {x : World} {cs : Array Value} (i : Nat) (v : Value), x.heap[b]? = some (.cells cs 26 (0, 0)) → (x.setCell ⟨b, i, none⟩ v).heap[b]? = some (.cells (cs.setIfInBounds i v) 26 (0, 0)) := fun i v hx => heap_setCell_same _ b i _ _ v hx
  have := st 9 (.slice p' e'.xs.length c') (st 8 (.int .i64 e'.y) (st 7 (.int .i64 e'.c) (st 6 (.string ⟨e'.n.toArray⟩) (st 5 (.string ⟨e'.t.toArray⟩) (st 4 (.string e'.v.s) (st 3 (.int .i64 e'.v.n) (st 2 (.int .i64 e'.v.k) (st 1 (.int .i64 e'.op) (st 0 (.int .i64 e'.k) h)))))))))
  simpa [BGx] using this
theorem below_put10b {B b : Nat} {w w2 : World} {v0 v1 v2 v3 v4 v5 v6 v7 v8 v9 : Value} (h : Below B w w2) (hb : B ≤ b) : Below B w (put10 w2 b v0 v1 v2 v3 v4 v5 v6 v7 v8 v9) := by
  unfold put10
  have st : ∀ {y : World} (i : Nat) (v : Value), Below B w y → Below B w (y.setCell ⟨b, i, none⟩ v) := fun i v h => h.setCell (p := ⟨b, i, none⟩) hb v
  exact st 9 _ (st 8 _ (st 7 _ (st 6 _ (st 5 _ (st 4 _ (st 3 _ (st 2 _ (st 1 _ (st 0 _ h)))))))))
theorem kn_one {w : World} {M g : Nat} {x : Gx} {q : Option Addr} {cx : Nat} {k n : Int} {s : ByteArray} (h : w.heap[g]? = some (.cells #[.int .i64 x.k, .int .i64 x.op, .int .i64 x.v.k, .int .i64 x.v.n, .string x.v.s, .string ⟨x.t.toArray⟩, .string ⟨x.n.toArray⟩, .int .i64 x.c, .int .i64 x.y, .slice q x.xs.length cx, .int .i64 k, .int .i64 n, .string s] 38 (0, 0))) (hg : GAt w M x q) : KnR w M (some ⟨g, 0, none⟩) [(x, ⟨k, n, s⟩)] := by
  refine ⟨by simp, Or.inr ⟨g, 0, rfl, fun i hi => ?_⟩⟩
  match i, hi with
  | 0, _ =>
    refine ⟨q, cx, ?_, ?_, hg⟩
    · refine ⟨?_, ?_, ?_, ?_, ?_, ?_, ?_, ?_, ?_, ?_⟩ <;> (rw [Lib.cell_of_heap h]; rfl)
    · refine ⟨?_, ?_, ?_⟩ <;> (rw [Lib.cell_of_heap h]; rfl)
theorem eval_one {w : World} {m g : Nat} {pr p q : Option Addr} {row : List Val} {cr c cx : Nat} {e x : Gx} {k n : Int} {s : ByteArray} (hr : Row w pr row) (ht : Tb w) (hl : row.length ≤ 1048576) (hg : ∀ v ∈ row, RtV v) (hE : GAt w m e p) (he : RtN m e) (hc : e.xs.length ≤ c)
    (h : w.heap[g]? = some (.cells #[.int .i64 x.k, .int .i64 x.op, .int .i64 x.v.k, .int .i64 x.v.n, .string x.v.s, .string ⟨x.t.toArray⟩, .string ⟨x.n.toArray⟩, .int .i64 x.c, .int .i64 x.y, .slice q x.xs.length cx, .int .i64 k, .int .i64 n, .string s] 38 (0, 0))) (hx : GAt w m x q) (hv : RtV ⟨k, n, s⟩) :
    Calls Tryz.prog 12 #[gV e p c, .slice pr row.length cr, .slice (some ⟨g, 0, none⟩) 1 1] w fun r w' => r = .returned (evN m row [(x, ⟨k, n, s⟩)] m e).out ∧ Below w.heap.size w w' :=
  eval_any m m (Nat.le_refl _) row pr cr [(x, ⟨k, n, s⟩)] (some ⟨g, 0, none⟩) 1 w e p c ⟨hr, kn_one h hx, ht, hl, hg, fun y hy => by
    obtain rfl := List.mem_singleton.1 hy
    exact hv⟩ hE he hc
theorem eval_lv {w : World} {m j : Nat} {pr p : Option Addr} {row : List Val} {cr c : Nat} {e : Gx} (hj : j ≤ m) (hr : Row w pr row) (ht : Tb w) (hl : row.length ≤ 1048576) (hg : ∀ v ∈ row, RtV v) (hE : GAt w j e p) (he : RtN j e) (hc : e.xs.length ≤ c) :
    Calls Tryz.prog 12 #[gV e p c, .slice pr row.length cr, .slice none 0 0] w fun r w' => r = .returned (evN m row [] j e).out ∧ Below w.heap.size w w' :=
  eval_any m j hj row pr cr [] none 0 w e p c (cv_no m hr ht hl hg) hE he hc
/-- What the step down reads. -/
def LS (W : World) (pb : Nat) (ps : Value) (bz oz : Nat) (z : Int) (b o : Nat) (x : Gx) (q : Option Addr) (c : Nat) : Prop :=
  W.cell? ⟨pb, 9, none⟩ = some ps ∧ W.cell? ⟨bz, oz, none⟩ = some (.int .i64 z) ∧ GC W b o x q c
theorem LS.below {w w' : World} {pb : Nat} {ps : Value} {bz oz : Nat} {z : Int} {b o : Nat} {x : Gx} {q : Option Addr} {c : Nat} (h : LS w pb ps bz oz z b o x q c) (B : Below w.heap.size w w') : LS w' pb ps bz oz z b o x q c := ⟨below_cell B h.1, below_cell B h.2.1, h.2.2.below B⟩
theorem LS.all {W : World} {pb : Nat} {ps : Value} {bz oz : Nat} {z : Int} {b o : Nat} {x : Gx} {q : Option Addr} {c : Nat} (h : LS W pb ps bz oz z b o x q c) : W.cell? ⟨pb, 9, none⟩ = some ps ∧ W.cell? ⟨bz, oz, none⟩ = some (.int .i64 z) ∧ W.cell? ⟨b, o, none⟩ = some (.int .i64 x.k) ∧ W.cell? ⟨b, o + 1, none⟩ = some (.int .i64 x.op) ∧ W.cell? ⟨b, o + 2, none⟩ = some (.int .i64 x.v.k) ∧ W.cell? ⟨b, o + 3, none⟩ = some (.int .i64 x.v.n) ∧ W.cell? ⟨b, o + 4, none⟩ = some (.string x.v.s) ∧ W.cell? ⟨b, o + 5, none⟩ = some (.string ⟨x.t.toArray⟩) ∧ W.cell? ⟨b, o + 6, none⟩ = some (.string ⟨x.n.toArray⟩) ∧ W.cell? ⟨b, o + 7, none⟩ = some (.int .i64 x.c) ∧ W.cell? ⟨b, o + 8, none⟩ = some (.int .i64 x.y) ∧ W.cell? ⟨b, o + 9, none⟩ = some (.slice q x.xs.length c) := h
set_option maxHeartbeats 32000000 in
theorem evpart_any (m : Nat) (e : Gx) (p pa pz : Option Addr) (c ca cz : Nat) (a : List Val) (zs : List Int) (w : World) (hE : Ew w) (hg : GAt w m e p) (hc : e.xs.length ≤ c) (hbd : BdN m e) (hz : szN m e ≤ 1048576)
    (ra : Row w pa a) (la : a.length ≤ 1048576) (ba : ∀ v ∈ a, BdV v) (rz : ZR w pz zs) :
    Calls Tryz.prog 5 #[gV e p c, .slice pa a.length ca, .slice pz zs.length cz] w fun r w' => r = .returned (.bool true) ∧ Below w.heap.size w w' := by
  have HX0 := hid (BGx.new w e p c)
  have B := albl' w (.cells #[.int .i64 e.k, .int .i64 e.op, .int .i64 e.v.k, .int .i64 e.v.n, .string e.v.s, .string ⟨e.t.toArray⟩, .string ⟨e.n.toArray⟩, .int .i64 e.c, .int .i64 e.y, .slice p e.xs.length c] 26)
  have B0 := hid B
  have HE := hid (fun (W : World) (h : Below w.heap.size w W) => hE.below h)
  have HG := hid hg
  have HCe := hid hc
  have HDE := hid (gat_dp hg)
  have HRA := hid (And.intro ra la)
  have HRZ := hid rz
  have CW := hid (fun (W : World) (h : Below w.heap.size w W) (_ : BGx W w.heap.size e p c) => works_any16 W (hE.below h))
  have CR := hid (fun (W : World) (h : Below w.heap.size w W) (_ : BGx W w.heap.size e p c) => rights_all m W e p c (hg.below h))
  have CA := hid (fun (W : World) (h : Below w.heap.size w W) (_ : BGx W w.heap.size e p c) => rightRow_any a pa ca W la (ra.below h))
  have CS := hid (fun (W : World) (h : Below w.heap.size w W) (_ : BGx W w.heap.size e p c) => size_all m W e p c (hg.below h) hz)
  have HRT := hid (fun (q : rgN m e = true) => rtN_of m e hbd q)
  have HTA := hid (fun (q : (a.all fun v => checkV v == 0) = true) => rtRow_of ba q)
  clear B hE hg hc hbd hz ra la ba rz
  generalize (a.all fun v => checkV v == 0) = qa at *
  generalize rgN m e = qr at *
  generalize szN m e = sz at *
  go_enter Tryz.func5, Tryz.ntmps5
  go_upto_region 1 with fail
  generalize hW : w.alloc _ = W0 at *
  clear hW
  go_upto_region 3 with (first
    | (go_at_call 16; go_loud (with_reducible refine (CW.out _ B0.out HX0.out).mono ?_); rintro r w1 ⟨rfl, b1⟩; have HX1 := hid (HX0.out.below b1); have B1 := hid (B0.out.trans (b1.mono B0.out.size)); clear b1)
    | fail)
  have hl1 := HX1.out.lt
  obtain ⟨x0, x1, x2, x3, x4, x5, x6, x7, x8, x9⟩ := HX1.out.cells
  cases qr
  · go_wp2_with (first
      | (go_at_call 7; go_loud (with_reducible refine (CR.out _ B1.out HX1.out).mono ?_); rintro r w2 ⟨rfl, b2⟩; have HX2 := hid (HX1.out.below b2); have B2 := hid (B1.out.trans (b2.mono B1.out.size)); clear b2; clear x0 x1 x2 x3 x4 x5 x6 x7 x8 x9; obtain ⟨x0, x1, x2, x3, x4, x5, x6, x7, x8, x9⟩ := HX2.out.cells)
      | fail)
    go_ret
    exact ⟨rfl, B2.out⟩
  cases qa
  · go_wp2_with (first
      | (go_at_call 7; go_loud (with_reducible refine (CR.out _ B1.out HX1.out).mono ?_); rintro r w2 ⟨rfl, b2⟩; have HX2 := hid (HX1.out.below b2); have B2 := hid (B1.out.trans (b2.mono B1.out.size)); clear b2; clear x0 x1 x2 x3 x4 x5 x6 x7 x8 x9; obtain ⟨x0, x1, x2, x3, x4, x5, x6, x7, x8, x9⟩ := HX2.out.cells)
      | (go_at_call 8; go_loud (with_reducible refine (CA.out _ B2.out HX2.out).mono ?_); rintro r w3 ⟨rfl, b3⟩; have HX3 := hid (HX2.out.below b3); have B3 := hid (B2.out.trans (b3.mono B2.out.size)); clear b3; clear x0 x1 x2 x3 x4 x5 x6 x7 x8 x9; obtain ⟨x0, x1, x2, x3, x4, x5, x6, x7, x8, x9⟩ := HX3.out.cells)
      | fail)
    go_ret
    exact ⟨rfl, B3.out⟩
  by_cases hsz : (300 : Int) < (sz : Int)
  · go_wp2_with (first
      | (go_at_call 7; go_loud (with_reducible refine (CR.out _ B1.out HX1.out).mono ?_); rintro r w2 ⟨rfl, b2⟩; have HX2 := hid (HX1.out.below b2); have B2 := hid (B1.out.trans (b2.mono B1.out.size)); clear b2; clear x0 x1 x2 x3 x4 x5 x6 x7 x8 x9; obtain ⟨x0, x1, x2, x3, x4, x5, x6, x7, x8, x9⟩ := HX2.out.cells)
      | (go_at_call 8; go_loud (with_reducible refine (CA.out _ B2.out HX2.out).mono ?_); rintro r w3 ⟨rfl, b3⟩; have HX3 := hid (HX2.out.below b3); have B3 := hid (B2.out.trans (b3.mono B2.out.size)); clear b3; clear x0 x1 x2 x3 x4 x5 x6 x7 x8 x9; obtain ⟨x0, x1, x2, x3, x4, x5, x6, x7, x8, x9⟩ := HX3.out.cells)
      | (go_at_call 9; go_loud (with_reducible refine (CS.out _ B3.out HX3.out).mono ?_); rintro r w4 ⟨rfl, b4⟩; have HX4 := hid (HX3.out.below b4); have B4 := hid (B3.out.trans (b4.mono B3.out.size)); clear b4; clear x0 x1 x2 x3 x4 x5 x6 x7 x8 x9; obtain ⟨x0, x1, x2, x3, x4, x5, x6, x7, x8, x9⟩ := HX4.out.cells)
      | fail)
    go_ret
    exact ⟨rfl, B4.out⟩
  · go_upto_region 5 with (first
      | (go_at_call 7; go_loud (with_reducible refine (CR.out _ B1.out HX1.out).mono ?_); rintro r w2 ⟨rfl, b2⟩; have HX2 := hid (HX1.out.below b2); have B2 := hid (B1.out.trans (b2.mono B1.out.size)); clear b2; clear x0 x1 x2 x3 x4 x5 x6 x7 x8 x9; obtain ⟨x0, x1, x2, x3, x4, x5, x6, x7, x8, x9⟩ := HX2.out.cells)
      | (go_at_call 8; go_loud (with_reducible refine (CA.out _ B2.out HX2.out).mono ?_); rintro r w3 ⟨rfl, b3⟩; have HX3 := hid (HX2.out.below b3); have B3 := hid (B2.out.trans (b3.mono B2.out.size)); clear b3; clear x0 x1 x2 x3 x4 x5 x6 x7 x8 x9; obtain ⟨x0, x1, x2, x3, x4, x5, x6, x7, x8, x9⟩ := HX3.out.cells)
      | (go_at_call 9; go_loud (with_reducible refine (CS.out _ B3.out HX3.out).mono ?_); rintro r w4 ⟨rfl, b4⟩; have HX4 := hid (HX3.out.below b4); have B4 := hid (B3.out.trans (b4.mono B3.out.size)); clear b4; clear x0 x1 x2 x3 x4 x5 x6 x7 x8 x9; obtain ⟨x0, x1, x2, x3, x4, x5, x6, x7, x8, x9⟩ := HX4.out.cells)
      | fail)
    have HRTe := hid (HRT.out trivial)
    have HTAr := hid (HTA.out trivial)
    clear HRT HTA CW CR CA CS x0 x1 x2 x3 x4 x5 x6 x7 x8 x9
    have hl4 := HX4.out.lt
    obtain ⟨x0, x1, x2, x3, x4, x5, x6, x7, x8, x9⟩ := HX4.out.cells
    have BAl := albl w4 (.cells #[.int .i64 e.k, .int .i64 e.op, .int .i64 e.v.k, .int .i64 e.v.n, .string e.v.s, .string ⟨e.t.toArray⟩, .string ⟨e.n.toArray⟩, .int .i64 e.c, .int .i64 e.y, .slice p e.xs.length c] 26)
    go_upto_region 6 with fail
    have HX5 := hid (HX4.out.below BAl)
    have HP5 := hid (BGx.new w4 e p c)
    have B5 := hid (B4.out.trans (BAl.mono B4.out.size))
    have hpb : w.heap.size < w4.heap.size := by have := HX4.out.lt; omega
    clear BAl x0 x1 x2 x3 x4 x5 x6 x7 x8 x9 hl1 hl4
    generalize hW5 : World.alloc w4 _ = W5 at *
    clear hW5
    generalize w4.heap.size = pb at *
    go_upto_region 7 with fail
    go_loopw [8] (fun i wr => ∃ (k j : Nat) (x : Gx) (q : Option Addr) (cx : Nat), k ≤ 10 ∧ i = .int .i64 (k : Int) ∧ j ≤ m ∧ Hid (GAt w j x q) ∧ Hid (RtN j x) ∧ Hid (x.xs.length ≤ cx) ∧ Hid (colN m e = false → colN j x = false) ∧ Hid (BGx wr pb x q cx) ∧ Hid (BGx wr w.heap.size e p c) ∧ Hid (Below w.heap.size w wr)) (fun i _ => 10 - (RowKit.intOf i).toNat)
    case atStart => exact ⟨0, m, e, p, c, by omega, rfl, Nat.le_refl _, HG.out, HRTe.out, HCe.out, id, HP5.out, HX5.out, B5.out⟩
    case round =>
      obtain ⟨k, j, x, q, cx, hk10, rfl, hjm, HGx, HTx, HCx, HLx, HPk, HXk, HBk⟩ := hrel
      have hlp := HPk.out.lt
      have hxl := HGx.out.row.len
      obtain ⟨z0, z1, z2, z3, z4, z5, z6, z7, z8, z9⟩ := HPk.out.cells
      by_cases a1 : (k : Int) < (zs.length : Int)
      by_cases a2 : (k : Int) < 10
      by_cases a3 : (0 : Int) < (x.xs.length : Int)
      · have hkz : k < zs.length := by omega
        have hk0 : (0 : Int) ≤ (k : Int) := by omega
        obtain ⟨bz, oz, rfl, cz0⟩ := (HRZ.out.below HBk.out).at hkz
        have hbz := cell_lt cz0
        generalize zs[k] = z at *
        obtain ⟨hw1, i, hi, hmz, hwi⟩ := way_at z x.xs.length (by omega) hxl
        have hne0 : ¬ ((x.xs.length : Int) = 0) := by omega
        have hne1 : ((x.xs.length : Int) == 0) = false := by simpa using hne0
        have hne2 : ¬ (IntKind.u64.wrap (x.xs.length : Int) = 0) := by rw [hw1]; exact hne0
        have hne3 : (IntKind.u64.wrap (x.xs.length : Int) == 0) = false := by rw [hw1]; exact hne1
        have hm2 : (IntKind.u64.wrap z).tmod (IntKind.u64.wrap (x.xs.length : Int)) = (i : Int) := by rw [hw1]; exact hmz
        have hw2 : IntKind.u64.wrap (i : Int) = (i : Int) := by rw [IntKind.wrap_u64]; omega
        have hm3 : IntKind.u64.wrap ((IntKind.u64.wrap z).tmod (IntKind.u64.wrap (x.xs.length : Int))) = (i : Int) := by rw [hm2]; exact hw2
        have hm4 : IntKind.u64.wrap ((IntKind.u64.wrap z).tmod (x.xs.length : Int)) = (i : Int) := by rw [hmz]; exact hw2
        have hiI : (i : Int) < (x.xs.length : Int) := by omega
        have hi0 : (0 : Int) ≤ (i : Int) := by omega
        have hjx : ∃ j', j = j' + 1 := by
          cases j with
          | zero =>
            have h0 : x.xs = [] := HGx.out
            rw [h0] at hi
            simp at hi
          | succ j' => exact ⟨j', rfl⟩
        obtain ⟨j', rfl⟩ := hjx
        obtain ⟨b, off, qi, ci, rfl, X, EX, hci⟩ := (gat_row HGx.out).cap hi
        have HEX := hid EX
        have HTi := hid (HTx.out.2 _ (List.getElem_mem hi))
        have HLi := hid (fun h => col_xs (HLx.out h) _ (List.getElem_mem hi))
        have X' := X.below HBk.out
        have hb : b < wr.heap.size := cell_lt X'.1
        have hci' := hid hci
        have pf := HPk.out.frozen
        have S0 := hid (show LS wr pb (.slice (some ⟨b, off, none⟩) x.xs.length cx) bz (oz + k) z b (off + i * 10) x.xs[i] qi ci from ⟨z9, cz0, X'⟩)
        have SD := hid (S0.out.below (Below.refl _ _).drew)
        obtain ⟨y0, y1, y2, y3, y4, y5, y6, y7, y8, y9⟩ := X'
        clear X EX hci
        generalize x.xs[i] = xi at *
        generalize x.xs.length = L at *
        have hL0 : ¬ L = 0 := by omega
        have hL1 : (L == 0) = false := by simp [hL0]
        go_upto_region 9 with fail
        refine wp_region_still_tail 15 (by kernel_rfl) (by kernel_rfl) ?_
        have hD := below_drawn wr
        have S1 := S0.out.below hD
        have HP1 := hid (HPk.out.below hD)
        have HX1 := hid (HXk.out.below hD)
        have HB1 := hid (HBk.out.trans (hD.mono HBk.out.size))
        clear z0 z1 z2 z3 z4 z5 z6 z7 z8 z9 y0 y1 y2 y3 y4 y5 y6 y7 y8 y9 cz0 hbz hb pf hlp SD S0
        generalize ({ wr with drawn := wr.drawn + 1 } : World) = D at *
        clear hD
        obtain ⟨z9, cz0, y0, y1, y2, y3, y4, y5, y6, y7, y8, y9⟩ := S1.all
        clear S1
        have hb := cell_lt y0
        have hbz := cell_lt cz0
        have hlp := HP1.out.lt
        have pf := HP1.out.frozen
        obtain ⟨z0, z1, z2, z3, z4, z5, z6, z7, z8, _⟩ := HP1.out.cells
        simp only [List.take_succ_cons, List.take_zero, List.drop_succ_cons, List.drop_zero]
        repeat still_step
        refine wpStill_nil ?_
        go_wp2_with fail
        go_roundw
        case rel => exact ⟨k + 1, j', xi, qi, ci, by omega, by go_num, by omega, HEX.out, HTi.out, hci'.out, HLi.out, HP1.out.put xi qi ci, HX1.out.chg (put10_chg D pb (.int .i64 xi.k) (.int .i64 xi.op) (.int .i64 xi.v.k) (.int .i64 xi.v.n) (.string xi.v.s) (.string ⟨xi.t.toArray⟩) (.string ⟨xi.n.toArray⟩) (.int .i64 xi.c) (.int .i64 xi.y) (.slice qi xi.xs.length ci)) (by omega), below_put10b HB1.out (by omega)⟩
        case measure => simp [RowKit.intOf]; omega
      all_goals (
        go_upto_region 10 with fail
        have HXk' := HXk
        obtain ⟨z0, z1, z2, z3, z4, z5, z6, z7, z8, z9⟩ := HPk.out.cells
        have DP := hid (eval_lv (cr := ca) hjm (HRA.out.1.below HBk.out) (HE.out wr HBk.out).tb HRA.out.2 HTAr.out (HGx.out.below HBk.out) HTx.out HCx.out)
        obtain ⟨A, hA⟩ : ∃ A, A = evN m a [] j x := ⟨_, rfl⟩
        have HRV : Hid (RtV A.v) := by rw [hA]; exact rt_evN HTAr.out (fun q hq => by cases hq) j x HTx.out
        have HPT : Hid (A.e = 0 → colN m e = false → evN m a [(x, A.v)] m e = evN m a [] m e) := fun h0 hc => by
          refine ev_part (gat_dp HGx.out) ?_ m e HDE.out (HLx.out hc) hc
          rw [← hA]
          obtain ⟨v, r⟩ := A
          simp only at h0
          subst h0
          rfl
        rw [← hA] at DP
        clear hA
        obtain ⟨⟨ak, an, az⟩, ae⟩ := A
        unfold Ans.out Val.v at DP
        simp only [] at DP HPT HRV
        go_upto_region 11 with (first
          | (go_at_call 12; go_loud (with_reducible refine DP.out.mono ?_); rintro r wp ⟨rfl, bp⟩; have HXp := hid (HXk.out.below bp); have HPp := hid (HPk.out.below bp); have Bp := hid (HBk.out.trans (bp.mono HBk.out.size)); clear bp)
          | fail)
        have BAl := albl wp (.cells #[.int .i64 ak, .int .i64 an, .string az] 23)
        have HXq := hid (HXp.out.below BAl)
        have HPq := hid (HPp.out.below BAl)
        have Bq := hid (Bp.out.trans (BAl.mono Bp.out.size))
        have Vq := hid (VV.new wp ak an az)
        clear BAl z0 z1 z2 z3 z4 z5 z6 z7 z8 z9
        generalize hWq : World.alloc wp _ = Wq at *
        clear hWq
        obtain ⟨x0, x1, x2, x3, x4, x5, x6, x7, x8, x9⟩ := HXq.out.cells
        by_cases hae : ae = 0
        · have hae2 : (ae != 0) = false := by simp [hae]
          have CT := hid (two_all m Wq e p c (HG.out.below Bq.out))
          cases hqc : colN m e with
          | true =>
            rw [hqc] at CT
            go_wp2_with (first
              | (go_at_call 18; go_loud (with_reducible refine CT.out.mono ?_); rintro r wt ⟨rfl, bt⟩; have Bt := hid (Bq.out.trans (bt.mono Bq.out.size)); clear bt)
              | fail)
            go_ret
            exact ⟨rfl, Bt.out⟩
          | false =>
            rw [hqc] at CT
            have HPE := hid (HPT.out hae hqc)
            obtain ⟨R, hR⟩ : ∃ R, R = evN m a [] m e := ⟨_, rfl⟩
            have DE := hid (fun W (h : Below w.heap.size w W) => eval_lv (cr := ca) (m := m) (Nat.le_refl _) (HRA.out.1.below h) (HE.out W h).tb HRA.out.2 HTAr.out (HG.out.below h) HRTe.out HCe.out)
            rw [← hR] at DE
            have HPE2 : Hid (evN m a [(x, ⟨ak, an, az⟩)] m e = R) := by rw [hR]; exact HPE.out
            clear hR
            have DK := hid (fun W (h : Below w.heap.size w W) g hk => eval_one (m := m) (g := g) (q := q) (cx := cx) (x := x) (cr := ca) (HRA.out.1.below h) (HE.out W h).tb HRA.out.2 HTAr.out (HG.out.below h) HRTe.out HCe.out hk ((HGx.out.le hjm).below h) HRV.out)
            rw [HPE2.out] at DK
            obtain ⟨⟨rk, rn, rz⟩, re⟩ := R
            unfold Ans.out Val.v at DE DK
            simp only [] at DE DK
            clear hae
            go_upto_region 13 with (first
              | (go_at_call 18; go_loud (with_reducible refine CT.out.mono ?_); rintro r wt ⟨rfl, bt⟩; have Bt := hid (Bq.out.trans (bt.mono Bq.out.size)); have HXt := hid (HXq.out.below bt); have HPt := hid (HPq.out.below bt); have Vt := hid (Vq.out.below bt); clear bt x0 x1 x2 x3 x4 x5 x6 x7 x8 x9; obtain ⟨x0, x1, x2, x3, x4, x5, x6, x7, x8, x9⟩ := HXt.out.cells)
              | fail)
            go_upto_region 14 with (first
              | (go_at_call 12; go_loud (with_reducible refine (DE.out _ Bt.out).mono ?_); rintro r wu ⟨rfl, bu⟩; have Bu := hid (Bt.out.trans (bu.mono Bt.out.size)); have HXu := hid (HXt.out.below bu); have HPu := hid (HPt.out.below bu); have Vu := hid (Vt.out.below bu); clear bu)
              | fail)
            have BAl := albl wu (.cells #[.int .i64 rk, .int .i64 rn, .string rz] 23)
            have HXv := hid (HXu.out.below BAl)
            have HPv := hid (HPu.out.below BAl)
            have Vv := hid (Vu.out.below BAl)
            have Bv := hid (Bu.out.trans (BAl.mono Bu.out.size))
            have Uv := hid (VV.new wu rk rn rz)
            clear BAl x0 x1 x2 x3 x4 x5 x6 x7 x8 x9
            generalize hWv : World.alloc wu _ = Wv at *
            clear hWv
            obtain ⟨x0, x1, x2, x3, x4, x5, x6, x7, x8, x9⟩ := HXv.out.cells
            obtain ⟨z0, z1, z2, z3, z4, z5, z6, z7, z8, z9⟩ := HPv.out.cells
            obtain ⟨y0, y1, y2⟩ := Vv.out.cells
            have BAk := albl Wv (.cells #[.int .i64 x.k, .int .i64 x.op, .int .i64 x.v.k, .int .i64 x.v.n, .string x.v.s, .string ⟨x.t.toArray⟩, .string ⟨x.n.toArray⟩, .int .i64 x.c, .int .i64 x.y, .slice q x.xs.length cx, .int .i64 ak, .int .i64 an, .string az] 38)
            have Bk2 := hid (Bv.out.trans (BAk.mono Bv.out.size))
            have DK2 := hid (DK.out _ Bk2.out Wv.heap.size (heap_alloc_new Wv _))
            have Uk := hid (Uv.out.below BAk)
            clear BAk
            go_upto_region 15 with (first
              | (go_at_call 12; go_loud (with_reducible refine DK2.out.mono ?_); rintro r wy ⟨rfl, b_y⟩; have By := hid (Bk2.out.trans (b_y.mono Bk2.out.size)); have Uy := hid (Uk.out.below b_y); clear b_y)
              | fail)
            have BAl := albl wy (.cells #[.int .i64 rk, .int .i64 rn, .string rz] 23)
            have Bz := hid (By.out.trans (BAl.mono By.out.size))
            have Uz := hid (Uy.out.below BAl)
            have Tz := hid (VV.new wy rk rn rz)
            clear BAl x0 x1 x2 x3 x4 x5 x6 x7 x8 x9 z0 z1 z2 z3 z4 z5 z6 z7 z8 z9 y0 y1 y2
            generalize hWz : World.alloc wy _ = Wz at *
            clear hWz
            obtain ⟨x0, x1, x2⟩ := Uz.out.cells
            obtain ⟨y0, y1, y2⟩ := Tz.out.cells
            go_wp2_with fail
            go_ret
            exact ⟨rfl, Bz.out⟩
        · have hae2 : (ae != 0) = true := bne_iff_ne.2 hae
          clear hae
          go_wp2_with fail
          go_ret
          exact ⟨rfl, Bq.out⟩
      )
end Go.Proofs.YthnmicadlcmecaaGreatDoor
