/- What the law's Its and Ours do: a node, copied from one kind to the other. Conditions: the node lies within the reach. -/
import Derived.Test.YtilmlegkkgiahaaNdIts0
import Derived.Test.YtilmlegkkgiahaaNdLast
namespace Go.Proofs.Ytilmlegkkgiahaa
open Go.RowKit Go.Lib
set_option linter.unusedVariables false
set_option maxRecDepth 20000

def itEnd (n : Nd) (w : World) (e : Ending) (w' : World) : Prop := ∃ cv kv dv, e = .returned (.agg #[.bool n.leaf, cv, kv, dv]) ∧ NV w' (w.heap.size ≤ ·) cv kv dv n ∧ Below w.heap.size w w'
theorem OwnC.lt' {e : TypeId} {w : World} {base : Nat} {v : Value} {l : List Cl} (o : OwnC e w base v l) {k : Nat} (h : v.ownBlock = some k) : base ≤ k ∧ k < w.heap.size := by
  obtain ⟨xs, h1, _⟩ := o
  exact h1.lt k h
theorem OwnK.lt' {w : World} {base : Nat} {v : Value} {l : List (List UInt8)} (o : OwnK w base v l) {k : Nat} (h : v.ownBlock = some k) : base ≤ k ∧ k < w.heap.size := by
  obtain ⟨xs, h1, _⟩ := o
  exact h1.lt k h
theorem OwnB.bvF {w w0 : World} {base B : Nat} {v x : Value} {l : List UInt8} {F : Nat → Prop} (o : OwnB w base v l) (X : BV w0 F x l) (hb : B ≤ base) : BV w (B ≤ ·) v l := by
  have hl : l.length ≤ 140737488351232 := by obtain ⟨_, _, _, _, _, _, h⟩ := X; exact h
  exact (o.bv hl).mono (fun k _ hk => Nat.le_trans hb hk)
theorem Bx.pst {w w' : World} {b : Nat} {x0 x1 x2 x3 v v' : Value} (h : Bx w b x0 x1 x2 x3) (P : ∀ wx, Past wx v v' w w') (hn : v.ownBlock ≠ some b) : Bx w' b x0 x1 x2 x3 :=
  have P0 := P w.heap.size
  have hl : b ≠ w.heap.size := Nat.ne_of_lt (cell_lt h.c0)
  ⟨P0.cell h.c0 hl hn, P0.cell h.c1 hl hn, P0.cell h.c2 hl hn, P0.cell h.c3 hl hn⟩
theorem chg_past {w0 w w' : World} {b : Nat} {v v' : Value} (C : Chg (· = b) w0 w) (P : ∀ wx, Past wx v v' w w') (h : ∀ j, v.ownBlock = some j → w0.heap.size ≤ j) : Chg (· = b) w0 w' :=
  have P0 := P w.heap.size
  ⟨P0.os.trans C.os, P0.tape.trans C.tape, P0.output.trans C.output, Nat.le_trans C.size P0.size, fun j hj hn => (P0.block j (Nat.lt_of_lt_of_le hj C.size) (by have := C.size; omega) (fun e => by have := h j e; omega)).trans (C.block j hj hn)⟩
theorem cr_mk {w : World} {base : Nat} {v x y : Value} {c : Cl} {B : Nat} (hF : ∀ j, B ≤ j → own' base v j) (K : BV w (B ≤ ·) x c.key) (V : BV w (B ≤ ·) y c.val) (h1 : i64b c.over) (h2 : i64b c.size) : CR w (own' base v) c x y (.int .i64 c.over) (.int .i64 c.size) :=
  ⟨K.mono (fun k _ hk => hF k hk), V.mono (fun k _ hk => hF k hk), rfl, rfl, h1, h2⟩
theorem bx_set {w : World} {b c i : Nat} {x0 x1 x2 x3 y : Value} (h : w.cell? ⟨b, 0, none⟩ = some x0 ∧ w.cell? ⟨b, 1, none⟩ = some x1 ∧ w.cell? ⟨b, 2, none⟩ = some x2 ∧ w.cell? ⟨b, 3, none⟩ = some x3) (hn : b ≠ c) : (w.setCell ⟨c, i, none⟩ y).cell? ⟨b, 0, none⟩ = some x0 ∧ (w.setCell ⟨c, i, none⟩ y).cell? ⟨b, 1, none⟩ = some x1 ∧ (w.setCell ⟨c, i, none⟩ y).cell? ⟨b, 2, none⟩ = some x2 ∧ (w.setCell ⟨c, i, none⟩ y).cell? ⟨b, 3, none⟩ = some x3 := by
  have e : (w.setCell ⟨c, i, none⟩ y).heap[b]? = w.heap[b]? := Below.heap_setCell _ _ _ _ hn
  exact ⟨(World.cell?_of_block (w := w) (a := ⟨b, 0, none⟩) e).trans h.1, (World.cell?_of_block (w := w) (a := ⟨b, 1, none⟩) e).trans h.2.1, (World.cell?_of_block (w := w) (a := ⟨b, 2, none⟩) e).trans h.2.2.1, (World.cell?_of_block (w := w) (a := ⟨b, 3, none⟩) e).trans h.2.2.2⟩
theorem own_cform {e : TypeId} {w : World} {base : Nat} {v : Value} {l : List Cl} (o : OwnC e w base v l) (n : Nat) (hn : l.length = n) : ∃ p c, v = .slice p n c := by
  subst hn
  obtain ⟨xs, h1, _⟩ := o
  obtain ⟨p, c, h, _⟩ := row_form h1
  exact ⟨p, c, h⟩
theorem own_kform {w : World} {base : Nat} {v : Value} {l : List (List UInt8)} (o : OwnK w base v l) (n : Nat) (hn : l.length = n) : ∃ p c, v = .slice p n c := by
  subst hn
  obtain ⟨xs, h1, _⟩ := o
  obtain ⟨p, c, h, _⟩ := row_form h1
  exact ⟨p, c, h⟩
theorem below2 (w : World) (o o' : Obj) : Below w.heap.size w ((w.alloc o).alloc o') := ((Below.refl _ _).alloc (Nat.le_refl _) _).alloc (by simp) _
theorem its_boxes {w w' : World} {a b c d a' b' c' d' : Value} {t t' : TypeId} (B : Below (w.heap.size + 2) ((w.alloc (.cells #[a, b, c, d] t)).alloc (.cells #[a', b', c', d'] t')) w') : Bx w' w.heap.size a b c d ∧ Bw w' (w.heap.size + 1) a' b' c' d' := by
  have hs : ((w.alloc (.cells #[a, b, c, d] t)).alloc (.cells #[a', b', c', d'] t')).heap.size = w.heap.size + 2 := by simp
  rw [← hs] at B
  have h1 := Bw.new (w.alloc (.cells #[a, b, c, d] t)) a' b' c' d' t'
  rw [size1] at h1
  exact ⟨((Bx.new w a b c d t).below (alloc_below _ _)).below B, h1.bel B⟩
theorem bel_ad {base : Nat} {W w : World} {o : Obj} (B : Below base W w) (h : base ≤ w.heap.size) : Below base W (w.alloc o).drew := (B.alloc h o).drew
theorem bel_aa {base : Nat} {W w : World} {o o' : Obj} (B : Below base W w) (h : base ≤ w.heap.size) : Below base W ((w.alloc o).alloc o') := (B.alloc h o).alloc (by simp; omega) o'
theorem bel_aad {base : Nat} {W w : World} {o o' : Obj} (B : Below base W w) (h : base ≤ w.heap.size) : Below base W ((w.alloc o).alloc o').drew := (bel_aa B h).drew
theorem ownD_nil {w : World} {base : Nat} {v : Value} {l : List Int} (o : OwnD w base v ([] ++ l)) : OwnD w base v l := o
theorem le1 {a : Nat} {w : World} {o : Obj} (h : a ≤ w.heap.size) : a ≤ (w.alloc o).heap.size := by
  simp
  omega
theorem le1s {a : Nat} {w : World} {o : Obj} (h : a ≤ w.heap.size) : a ≤ ((w.alloc o).drew).heap.size := le1 h
theorem le2s {a : Nat} {w : World} {o o' : Obj} (h : a ≤ w.heap.size) : a ≤ (((w.alloc o).alloc o').drew).heap.size := by
  show a ≤ ((w.alloc o).alloc o').heap.size
  simp
  omega
theorem Bw.drw {w : World} {b : Nat} {x0 x1 x2 x3 : Value} (h : Bw w b x0 x1 x2 x3) : Bw w.drew b x0 x1 x2 x3 := h.same rfl
theorem Bw.new1 (w : World) (o : Obj) (x0 x1 x2 x3 : Value) (t : TypeId) : Bw ((w.alloc o).alloc (.cells #[x0, x1, x2, x3] t)) (w.heap.size + 1) x0 x1 x2 x3 := by
  have h := Bw.new (w.alloc o) x0 x1 x2 x3 t
  rw [size1] at h
  exact h
theorem ne_own1 (w : World) (c : Nat) : (Value.slice (some ⟨w.heap.size, 0, none⟩) 0 c).ownBlock ≠ some (w.heap.size + 1) := by simp [Value.ownBlock]
theorem ne_own2 (w : World) (c : Nat) : (Value.slice (some ⟨w.heap.size + 1, 0, none⟩) 0 c).ownBlock ≠ some w.heap.size := by simp [Value.ownBlock]
theorem own_new {w : World} {base : Nat} {v : Value} {l : List Int} (o : OwnD w base v l) : v.ownBlock ≠ some w.heap.size := fun e => by have := (o.lt _ e).2; omega
theorem own_fresh2 {W w' : World} {base c : Nat} {v' : Value} {o1 o2 : Obj} {l : List Int} (O : OwnD w' base v' l) (P : ∀ wx, Past wx (.slice (some ⟨W.heap.size, 0, none⟩) 0 c) v' ((W.alloc o1).alloc o2).drew w') : v'.ownBlock ≠ some (W.heap.size + 1) :=
  (P 0).own (W.heap.size + 1) (by show _ < ((W.alloc o1).alloc o2).heap.size; simp) (ne_own1 _ _)
theorem own_fresh1 {W w' : World} {base c : Nat} {v' : Value} {o1 o2 : Obj} {l : List Int} (O : OwnD w' base v' l) (P : ∀ wx, Past wx (.slice (some ⟨W.heap.size + 1, 0, none⟩) 0 c) v' ((W.alloc o1).alloc o2).drew w') : v'.ownBlock ≠ some W.heap.size :=
  (P 0).own W.heap.size (by show _ < ((W.alloc o1).alloc o2).heap.size; simp; omega) (ne_own2 _ _)
theorem Bw.put4 {w : World} {b : Nat} {x0 x1 x2 x3 : Value} (h : Bw w b x0 x1 x2 x3) (y0 y1 y2 y3 : Value) : Bw ((((w.setCell ⟨b, 0, none⟩ y0).setCell ⟨b, 1, none⟩ y1).setCell ⟨b, 2, none⟩ y2).setCell ⟨b, 3, none⟩ y3) b y0 y1 y2 y3 := by
  obtain ⟨⟨c0, c1, c2, c3⟩, f⟩ := h
  refine ⟨⟨?_, ?_, ?_, ?_⟩, fun o => ?_⟩ <;> simp [go_sem, c0, c1, c2, c3, f]
theorem heap_put4 (w : World) (b k : Nat) (y0 y1 y2 y3 : Value) (h : k ≠ b) : ((((w.setCell ⟨b, 0, none⟩ y0).setCell ⟨b, 1, none⟩ y1).setCell ⟨b, 2, none⟩ y2).setCell ⟨b, 3, none⟩ y3).heap[k]? = w.heap[k]? := by
  rw [Below.heap_setCell _ _ _ _ h, Below.heap_setCell _ _ _ _ h, Below.heap_setCell _ _ _ _ h, Below.heap_setCell _ _ _ _ h]
theorem OwnD.put4 {w : World} {b base : Nat} {v : Value} {l : List Int} (o : OwnD w base v l) (hn : v.ownBlock ≠ some b) (y0 y1 y2 y3 : Value) : OwnD ((((w.setCell ⟨b, 0, none⟩ y0).setCell ⟨b, 1, none⟩ y1).setCell ⟨b, 2, none⟩ y2).setCell ⟨b, 3, none⟩ y3) base v l :=
  rows_same o (fun k hk => heap_put4 w b k y0 y1 y2 y3 (by rintro rfl; exact hn hk))
theorem bel_put4 {base : Nat} {W w : World} {b : Nat} (B : Below base W w) (h : base ≤ b) (y0 y1 y2 y3 : Value) : Below base W ((((w.setCell ⟨b, 0, none⟩ y0).setCell ⟨b, 1, none⟩ y1).setCell ⟨b, 2, none⟩ y2).setCell ⟨b, 3, none⟩ y3) :=
  (((B.setCell (p := ⟨b, 0, none⟩) h _).setCell (p := ⟨b, 1, none⟩) h _).setCell (p := ⟨b, 2, none⟩) h _).setCell (p := ⟨b, 3, none⟩) h _

set_option maxHeartbeats 8000000 in
theorem its_any {F : Nat → Prop} (cv kv dv : Value) (n : Nd) (w : World) (h : NV w F cv kv dv n) :
    Calls Try.prog 9 #[.agg #[.bool n.leaf, cv, kv, dv]] w (itEnd n w) := by
  have hN := h
  obtain ⟨⟨pc, cc, rfl, hC, _, _, hlc⟩, ⟨pk, ck, rfl, hK, _, _, hlk⟩, ⟨pd, cd, rfl, hD, _, _, hld, hi⟩⟩ := h
  have HBW := hid (below2 w (.cells #[.bool n.leaf, .slice pc n.cells.length cc, .slice pk n.keys.length ck, .slice pd n.kids.length cd] 26) (.cells #[.bool false, .slice none 0 0, .slice none 0 0, .slice none 0 0] 29))
  have HC := hid hC.old
  have HK := hid hK.old
  have HDs := hid (fun w' (B : Below w.heap.size w w') => hN.ds.kp (Kp.of_below B))
  have HI := hid hi
  have HX : Hid (∀ w', Below (w.heap.size + 2) ((w.alloc (.cells #[.bool n.leaf, .slice pc n.cells.length cc, .slice pk n.keys.length ck, .slice pd n.kids.length cd] 26)).alloc (.cells #[.bool false, .slice none 0 0, .slice none 0 0, .slice none 0 0] 29)) w' → Bx w' w.heap.size (.bool n.leaf) (.slice pc n.cells.length cc) (.slice pk n.keys.length ck) (.slice pd n.kids.length cd) ∧ Bw w' (w.heap.size + 1) (.bool false) (.slice none 0 0) (.slice none 0 0) (.slice none 0 0)) := fun w' B => its_boxes B
  have HSW : Hid (((w.alloc (.cells #[.bool n.leaf, .slice pc n.cells.length cc, .slice pk n.keys.length ck, .slice pd n.kids.length cd] 26)).alloc (.cells #[.bool false, .slice none 0 0, .slice none 0 0, .slice none 0 0] 29)).heap.size = w.heap.size + 2) := by show _ = _; simp
  clear hN hC hK hD hi
  go_enter Try.func9, Try.ntmps9
  go_upto_region 1 with fail
  generalize hW : (w.alloc _).alloc _ = W at *
  clear hW
  have HS : Hid (∀ w', Below (w.heap.size + 2) W w' → w'.cell? ⟨w.heap.size, 0, none⟩ = some (.bool n.leaf) ∧ w'.cell? ⟨w.heap.size, 3, none⟩ = some (.slice pd n.kids.length cd)) := fun w' B => ⟨(HX.out w' B).1.c0, (HX.out w' B).1.c3⟩
  have HD3 : Hid (∀ w', Below (w.heap.size + 2) W w' → DsV w' F (.slice pd n.kids.length cd) n.kids) := fun w' B => HDs.out w' (HBW.out.trans (B.mono (Nat.le_add_right _ _)))
  have B0 : Below (w.heap.size + 2) W W := Below.refl _ _
  have hsz : w.heap.size + 2 ≤ W.heap.size := by rw [HSW.out]; exact Nat.le_refl _
  have HL0 : Hid ((([] : List Int).length + n.kids.length) * 8 ≤ 140737488351232) := by show _ ≤ _; simpa using hld
  go_cut [3] from 7 to 13 (fun s3 wx => ∃ (xb : Nat) (dv' : Value), s3 = .pointer (some ⟨xb, 0, none⟩) ∧ Bw wx xb (.bool n.leaf) (.slice none 0 0) (.slice none 0 0) dv' ∧ OwnD wx (w.heap.size + 2) dv' n.kids ∧ dv'.ownBlock ≠ some xb ∧ w.heap.size + 2 ≤ xb ∧ Below (w.heap.size + 2) W wx)
  case first =>
    go_region_held_law (fun w' => w'.cell? ⟨w.heap.size, 0, none⟩ = some (.bool n.leaf) ∧ w'.cell? ⟨w.heap.size, 3, none⟩ = some (.slice pd n.kids.length cd)) (with_reducible first | exact HS.out _ B0 | exact HS.out _ B0.drew | exact HS.out _ (bel_ad B0 hsz) | exact HS.out _ (bel_aad B0 hsz) | exact HS.out _ B5 | exact HS.out _ (B5.alloc hs5 _) | exact HS.out _ (bel_put4 B5 hsz _ _ _ _) | exact HS.out _ (bel_put4 B5 (Nat.le_succ_of_le hsz) _ _ _ _))
      (first
        | (refine stDs ((own_emptyD W (w.heap.size + 2) hsz _ rfl).drw) (HD3.out _ (bel_ad B0 hsz)) rfl rfl rfl rfl HL0.out (le1s hsz) ?_; intro v' w' O' P' B'; replace O' := ownD_nil O'; obtain ⟨p', c', hv', _⟩ := row_form O'; subst hv'; have B5 := (bel_ad B0 hsz).trans B'; have hs5 := Nat.le_trans hsz B5.size; clear P' B')
        | (refine stDs (((own_emptyD W (w.heap.size + 2) hsz _ rfl).alc _).drw) (HD3.out _ (bel_aad B0 hsz)) rfl rfl rfl rfl HL0.out (le2s hsz) ?_; intro v' w' O' P' B'; replace O' := ownD_nil O'; have XB := ((Bw.new1 W _ (.bool false) (.slice none 0 0) (.slice none 0 0) (.slice none 0 0) 29).drw).past P' (ne_own1 _ _); obtain ⟨p', c', hv', _⟩ := row_form O'; subst hv'; have OF := own_fresh2 O' P'; obtain ⟨⟨q0, q1, q2, q3⟩, qf⟩ := XB; have f0 := qf 0; have f1 := qf 1; have f2 := qf 2; have f3 := qf 3; have B5 := (bel_aad B0 hsz).trans B'; have hs5 := Nat.le_trans hsz B5.size; clear P' B')
        | (refine stDs ((own_emptyD (W.alloc _) (w.heap.size + 2) (le1 hsz) _ (size1 _ _).symm).drw) (HD3.out _ (bel_aad B0 hsz)) rfl rfl rfl rfl HL0.out (le2s hsz) ?_; intro v' w' O' P' B'; replace O' := ownD_nil O'; have XB := ((Bw.new W (.bool false) (.slice none 0 0) (.slice none 0 0) (.slice none 0 0) 29).alc _).drw.past P' (ne_own2 _ _); obtain ⟨p', c', hv', _⟩ := row_form O'; subst hv'; have OF := own_fresh1 O' P'; obtain ⟨⟨q0, q1, q2, q3⟩, qf⟩ := XB; have f0 := qf 0; have f1 := qf 1; have f2 := qf 2; have f3 := qf 3; have B5 := (bel_aad B0 hsz).trans B'; have hs5 := Nat.le_trans hsz B5.size; clear P' B'))
    all_goals
      go_wp2_with fail
      go_meet
      case rel =>
        first
          | exact ⟨_, _, rfl, Bw.new _ _ _ _ _ _, O'.alc _, own_new O', hs5, B5.alloc hs5 _⟩
          | exact ⟨_, _, rfl, Bw.put4 ⟨⟨q0, q1, q2, q3⟩, qf⟩ _ _ _ _, O'.put4 OF _ _ _ _, OF, hsz, bel_put4 B5 hsz _ _ _ _⟩
          | exact ⟨_, _, rfl, Bw.put4 ⟨⟨q0, q1, q2, q3⟩, qf⟩ _ _ _ _, O'.put4 OF _ _ _ _, OF, Nat.le_succ_of_le hsz, bel_put4 B5 (Nat.le_succ_of_le hsz) _ _ _ _⟩
  case rest =>
  obtain ⟨xb, dv', rfl, X1, D1, hdx, hxb, B1⟩ := hcut
  have HX1 := hid X1
  have HD1 := hid D1
  have HB1 := hid B1
  have hx1 := X1.lt
  clear HS HD3 B0 X1 D1 B1 HL0
  go_wp2
  go_loopw [4] (fun i wr => ∃ (k : Nat) (cv' : Value), i = .int .i64 (k : Int) ∧ k ≤ n.cells.length ∧ Bw wr xb (.bool n.leaf) cv' (.slice none 0 0) dv' ∧ OwnC 58 wr wc.heap.size cv' (n.cells.take k) ∧ Chg (· = xb) wc wr) (fun i _ => n.cells.length - (RowKit.intOf i).toNat)
  case atStart => exact ⟨0, _, rfl, Nat.zero_le _, HX1.out, OwnC.nil _ _ _, Chg.refl _ _⟩
  case round =>
    obtain ⟨k, cv', rfl, hk, X, O, C⟩ := hrel
    have HXo := hid X
    have HOo := hid O
    have HCo := hid C
    have HWw : Hid (wc.heap.size ≤ wr.heap.size) := C.size
    obtain ⟨xs, h1, _⟩ := O
    have hlk1 : (n.cells.take k).length = k := by simp; omega
    rw [hlk1] at h1
    obtain ⟨p0, c0, hv0, _⟩ := row_form h1
    subst hv0
    have hxr : xb < wr.heap.size := X.lt
    obtain ⟨x0, x1, x2, x3⟩ := ((HX.out wc HB1.out).1.chg C (show ¬ w.heap.size = xb by omega)).get
    have HKp : Hid (Kp (· < w.heap.size) w wr) := fun j hj _ => (C.block j (by omega) (by omega)).trans ((HBW.out.trans (HB1.out.mono (Nat.le_add_right _ _))).block j hj)
    have hown : (Value.slice p0 k c0).ownBlock ≠ some xb := fun e => by have := (h1.lt _ e).1; omega
    have HOwn := hid hown
    clear X C h1 hown
    by_cases hx : k < n.cells.length
    · obtain ⟨gc, off, p1, c1, p2, c2, rfl, c10, c11, c12, c13, b1, b2, i1, i2, _⟩ := (HC.out.kp HKp.out).get hx
      have HBc := hid (alloc_below wr (.cells #[.slice p1 n.cells[k].key.length c1, .slice p2 n.cells[k].val.length c2, .int .i64 n.cells[k].over, .int .i64 n.cells[k].size] 59))
      have HBo := hid (Bx.new wr (.slice p1 n.cells[k].key.length c1) (.slice p2 n.cells[k].val.length c2) (.int .i64 n.cells[k].over) (.int .i64 n.cells[k].size) 59)
      have HK1 := hid (b1.below HBc.out)
      have HV1 := hid (b2.below HBc.out)
      have HXc := hid (HXo.out.bel HBc.out)
      have HOc := hid (HOo.out.bel HBc.out)
      have HSc : Hid (wr.heap.size < (wr.alloc (.cells #[.slice p1 n.cells[k].key.length c1, .slice p2 n.cells[k].val.length c2, .int .i64 n.cells[k].over, .int .i64 n.cells[k].size] 59)).heap.size) := by show _ < _; simp
      have HEq : Hid (n.cells.take (k + 1) = n.cells.take k ++ [n.cells[k]]) := List.take_succ_eq_append_getElem hx
      have HLk : Hid (((n.cells.take k).length + 1) * 64 ≤ 140737488351232) := by show _ ≤ _; simp; omega
      have HWc : Hid (wc.heap.size ≤ (wr.alloc (.cells #[.slice p1 n.cells[k].key.length c1, .slice p2 n.cells[k].val.length c2, .int .i64 n.cells[k].over, .int .i64 n.cells[k].size] 59)).heap.size) := Nat.le_trans HWw.out HBc.out.size
      have HI1 := hid i1
      have HI2 := hid i2
      clear b1 b2 i1 i2
      go_wp2
      generalize hWc : wr.alloc _ = Wc at *
      clear hWc
      have CK := hid (fun cur (B : Below Wc.heap.size Wc cur) => clone_any _ _ cur (HK1.out.below B))
      have CV := hid (fun cur (B : Below Wc.heap.size Wc cur) => clone_any _ _ cur (HV1.out.below B))
      unfold clEnd at CK CV
      have HS : Hid (∀ w', Below Wc.heap.size Wc w' → w'.cell? ⟨xb, 1, none⟩ = some (.slice p0 k c0) ∧ w'.cell? ⟨wr.heap.size, 0, none⟩ = some (.slice p1 n.cells[k].key.length c1) ∧ w'.cell? ⟨wr.heap.size, 1, none⟩ = some (.slice p2 n.cells[k].val.length c2) ∧ w'.cell? ⟨wr.heap.size, 2, none⟩ = some (.int .i64 n.cells[k].over) ∧ w'.cell? ⟨wr.heap.size, 3, none⟩ = some (.int .i64 n.cells[k].size)) := fun w' B => ⟨(HXc.out.bel B).bx.c1, (HBo.out.below B).get⟩
      have HOk : Hid (∀ w', Below Wc.heap.size Wc w' → OwnC 58 w' wc.heap.size (.slice p0 k c0) (n.cells.take k)) := fun w' B => HOc.out.bel B
      have HFr : Hid (∀ j, Wc.heap.size ≤ j → own' wc.heap.size (.slice p0 k c0) j) := fun j hj => ⟨by have := HSc.out; have := HWw.out; omega, fun e => by have := (HOo.out.lt' e).2; have := HSc.out; omega⟩
      have HSp : Hid (∀ (cur : World) (v' : Value) (w' : World), Below Wc.heap.size Wc cur → (∀ wx, Past wx (.slice p0 k c0) v' cur w') → (w'.cell? ⟨xb, 1, none⟩ = some (.slice p0 k c0) ∧ w'.cell? ⟨wr.heap.size, 0, none⟩ = some (.slice p1 n.cells[k].key.length c1) ∧ w'.cell? ⟨wr.heap.size, 1, none⟩ = some (.slice p2 n.cells[k].val.length c2) ∧ w'.cell? ⟨wr.heap.size, 2, none⟩ = some (.int .i64 n.cells[k].over) ∧ w'.cell? ⟨wr.heap.size, 3, none⟩ = some (.int .i64 n.cells[k].size)) ∧ Bw w' xb (.bool n.leaf) (.slice p0 k c0) (.slice none 0 0) dv' ∧ Chg (· = xb) wc w') := fun cur v' w' B P =>
        have X5 := (HXc.out.bel B).past P HOwn.out
        ⟨⟨X5.bx.c1, (Bx.pst (HBo.out.below B) P (fun e => by have := (HOo.out.lt' e).2; omega)).get⟩, X5, chg_past (HCo.out.trans (Chg.of_below (HBc.out.trans (B.mono HBc.out.size))) (fun _ _ h => h)) P (fun j e => (HOo.out.lt' e).1)⟩
      have B0 : Below Wc.heap.size Wc Wc.drew := (Below.refl _ _).drew
      refine wp_region_z (z := 16) (S := fun w' => w'.cell? ⟨xb, 1, none⟩ = some (.slice p0 k c0) ∧ w'.cell? ⟨wr.heap.size, 0, none⟩ = some (.slice p1 n.cells[k].key.length c1) ∧ w'.cell? ⟨wr.heap.size, 1, none⟩ = some (.slice p2 n.cells[k].val.length c2) ∧ w'.cell? ⟨wr.heap.size, 2, none⟩ = some (.int .i64 n.cells[k].over) ∧ w'.cell? ⟨wr.heap.size, 3, none⟩ = some (.int .i64 n.cells[k].size)) (by kernel_rfl) (HS.out _ B0) (fun hHeld => ?_)
      refine wpZ_take (i := 0) (t := 26) (v := ?_) rfl rfl (by kernel_rfl) (by kernel_rfl) (by kernel_rfl) (by kernel_rfl) (fun _ _ _ h => h) (Or.inl ⟨by rfl, ?_⟩) (by assumption) ?_
      rotate_left
      · intro wq hSw
        try dsimp only at hSw
        go_simp
        try with_reducible rfl
      try go_frame
      refine wpZ_take (i := 1) (t := 27) (v := ?_) rfl rfl (by kernel_rfl) (by kernel_rfl) (by kernel_rfl) (by kernel_rfl) (fun _ _ _ h => h) (Or.inl ⟨by rfl, ?_⟩) (by assumption) ?_
      rotate_left
      · intro wq hSw
        try dsimp only at hSw
        go_simp
        try with_reducible rfl
      try go_frame
      refine wpZ_take (i := 2) (t := 28) (v := ?_) rfl rfl (by kernel_rfl) (by kernel_rfl) (by kernel_rfl) (by kernel_rfl) (fun _ _ _ h => h) (Or.inl ⟨by rfl, ?_⟩) (by assumption) ?_
      rotate_left
      · intro wq hSw
        try dsimp only at hSw
        go_simp
        try with_reducible rfl
      try go_frame
      refine wpZ_take (i := 3) (t := 29) (v := ?_) rfl rfl (by kernel_rfl) (by kernel_rfl) (by kernel_rfl) (by kernel_rfl) (fun _ _ _ h => h) (Or.inl ⟨by rfl, ?_⟩) (by assumption) ?_
      rotate_left
      · intro wq hSw
        try dsimp only at hSw
        go_simp
        try with_reducible rfl
      try go_frame
      refine wpZ_take (i := 5) (t := 31) (v := ?_) rfl rfl (by kernel_rfl) (by kernel_rfl) (by kernel_rfl) (by kernel_rfl) (fun _ _ _ h => h) (Or.inl ⟨by rfl, ?_⟩) (by assumption) ?_
      rotate_left
      · intro wq hSw
        try dsimp only at hSw
        go_simp
        try with_reducible rfl
      try go_frame
      refine wpZ_take (i := 6) (t := 32) (v := ?_) rfl rfl (by kernel_rfl) (by kernel_rfl) (by kernel_rfl) (by kernel_rfl) (fun _ _ _ h => h) (Or.inl ⟨by rfl, ?_⟩) (by assumption) ?_
      rotate_left
      · intro wq hSw
        try dsimp only at hSw
        go_simp
        try with_reducible rfl
      try go_frame
      refine wpZ_take (i := 8) (t := 34) (v := ?_) rfl rfl (by kernel_rfl) (by kernel_rfl) (by kernel_rfl) (by kernel_rfl) (fun _ _ _ h => h) (Or.inl ⟨by rfl, ?_⟩) (by assumption) ?_
      rotate_left
      · intro wq hSw
        try dsimp only at hSw
        go_simp
        try with_reducible rfl
      try go_frame
      refine wpZ_take (i := 9) (t := 35) (v := ?_) rfl rfl (by kernel_rfl) (by kernel_rfl) (by kernel_rfl) (by kernel_rfl) (fun _ _ _ h => h) (Or.inl ⟨by rfl, ?_⟩) (by assumption) ?_
      rotate_left
      · intro wq hSw
        try dsimp only at hSw
        go_simp
        try with_reducible rfl
      try go_frame
      refine wpZ_take (i := 10) (t := 36) (v := ?_) rfl rfl (by kernel_rfl) (by kernel_rfl) (by kernel_rfl) (by kernel_rfl) (fun _ _ _ h => h) (Or.inl ⟨by rfl, ?_⟩) (by assumption) ?_
      rotate_left
      · intro wq hSw
        try dsimp only at hSw
        go_simp
        try with_reducible rfl
      try go_frame
      refine wpZ_take (i := 11) (t := 37) (v := ?_) rfl rfl (by kernel_rfl) (by kernel_rfl) (by kernel_rfl) (by kernel_rfl) (fun _ _ _ h => h) (Or.inl ⟨by rfl, ?_⟩) (by assumption) ?_
      rotate_left
      · intro wq hSw
        try dsimp only at hSw
        go_simp
        try with_reducible rfl
      try go_frame
      refine wpZ_step (i := 4) (by kernel_rfl) rfl (fun K hK => ?_)
      go_simp
      go_wp2_with (first | (go_at_call 18; go_loud (with_reducible refine (CK.out _ B0).mono ?_; rintro e w3 ⟨vk, rfl, ok, bn⟩; obtain ⟨pk', ck', hvk, _⟩ := ok.form; subst hvk; have KO := ok.bvF HK1.out B0.size; have B3 := B0.trans (bn.mono B0.size); clear ok bn)) | fail)
      refine hK.out _ _ (fun _ => HS.out _ B3) (fun hHeldN => ?_)
      replace hHeld := hHeldN (by decide)
      clear hK K hHeldN
      try go_frame
      refine wpZ_step (i := 7) (by kernel_rfl) rfl (fun K hK => ?_)
      go_simp
      go_wp2_with (first | (go_at_call 18; with_reducible refine (CV.out _ B3).mono ?_; rintro e w4 ⟨vv, rfl, ok, bn⟩; obtain ⟨pv', cv2, hvv, _⟩ := ok.form; subst hvv; have VO := ok.bvF HV1.out B3.size; replace KO := KO.below bn; have B4 := B3.trans (bn.mono B3.size); clear ok bn) | fail)
      refine hK.out _ _ (fun _ => HS.out _ B4) (fun hHeldN => ?_)
      replace hHeld := hHeldN (by decide)
      clear hK K hHeldN
      try go_frame
      refine wpZ_take (i := 12) (t := 38) (v := ?_) rfl rfl (by kernel_rfl) (by kernel_rfl) (by kernel_rfl) (by kernel_rfl) (fun _ _ _ h => h) (Or.inl ⟨by rfl, ?_⟩) (by assumption) ?_
      rotate_left
      · intro wq hSw
        try dsimp only at hSw
        go_simp
        try with_reducible rfl
      try go_frame
      refine wpZ_step (i := 13) (by kernel_rfl) rfl (fun K hK => ?_)
      go_simp
      refine hK.out _ _ (fun _ => HS.out _ (B4.alloc B4.size _)) (fun hHeldN => ?_)
      replace hHeld := hHeldN (by decide)
      clear hK K hHeldN
      try go_frame
      refine wpZ_step (i := 14) (by kernel_rfl) rfl (fun K hK => ?_)
      refine stC 27 58 Try.underlying27 infoCl (c := n.cells[k]) (HOk.out _ (B4.alloc B4.size _)) (Bx.new _ _ _ _ _ _) (cr_mk HFr.out (KO.below (alloc_below _ _)) (VO.below (alloc_below _ _)) HI1.out HI2.out) rfl rfl rfl rfl HLk.out (le1 (Nat.le_trans HWc.out B4.size)) ?_
      intro v5 w5 O5 P5 B5
      obtain ⟨S5, XB, C5⟩ := HSp.out _ v5 w5 (B4.alloc B4.size _) P5
      obtain ⟨p5, c5, hv5⟩ := own_cform O5 (k + 1) (by simp; omega)
      subst hv5
      have q1 := XB.bx.c1
      have f1 := XB.fz 1
      have HO5 := hid O5
      have HX5 := hid XB
      have HC5 := hid C5
      clear O5 XB C5 P5 B5
      refine hK.out _ _ (fun _ => S5) (fun hHeldN => ?_)
      replace hHeld := hHeldN (by decide)
      clear hK K hHeldN
      try go_frame
      refine wpZ_take (i := 15) (t := 41) (v := ?_) rfl rfl (by kernel_rfl) (by kernel_rfl) (by kernel_rfl) (by kernel_rfl) (fun _ _ _ h => h) (Or.inl ⟨by rfl, ?_⟩) (by assumption) ?_
      rotate_left
      · intro wq hSw
        try dsimp only at hSw
        go_simp
        try with_reducible rfl
      try go_frame
      refine wpZ_step (i := 16) (by kernel_rfl) rfl (fun K hK => ?_)
      go_simp
      refine hK.out _ _ (fun h => absurd rfl h) (fun _ => ?_)
      clear hK K
      refine wpZ_done (by kernel_rfl) ?_

      go_wp2
      have HO6 : Hid (OwnC 58 (w5.setCell ⟨xb, 1, none⟩ (.slice p5 (k + 1) c5)) wc.heap.size (.slice p5 (k + 1) c5) (n.cells.take (k + 1))) := by
        show OwnC _ _ _ _ _
        rw [HEq.out]
        exact HO5.out.kp (Kp.of_set (by omega))
      go_roundw
      case rel => exact ⟨k + 1, _, by go_num, by omega, HX5.out.set1 _, HO6.out, HC5.out.setCell (p := ⟨xb, 1, none⟩) (Or.inl rfl) _⟩
      case measure => simp [RowKit.intOf]; omega
    · obtain rfl : k = n.cells.length := by omega
      have HO1 : Hid (OwnC 58 wr wc.heap.size (.slice p0 n.cells.length c0) n.cells) := by have := HOo.out; rw [List.take_length] at this; exact this
      have HXz := hid ((HX.out wc HB1.out).2.same (HCo.out.block (w.heap.size + 1) (by omega) (by omega)))
      have HD1z := hid (rows_same HD1.out (fun j hj => HCo.out.block j (HD1.out.lt j hj).2 (fun e => hdx (by rw [hj, e]))))
      clear HOo HC HOwn
      go_wp2
      generalize hwz : wr = wz at *
      clear hwz
      go_loopw [6] (fun i wr => ∃ (k : Nat) (kv' : Value), i = .int .i64 (k : Int) ∧ k ≤ n.keys.length ∧ Bw wr xb (.bool n.leaf) (.slice p0 n.cells.length c0) kv' dv' ∧ OwnK wr wz.heap.size kv' (n.keys.take k) ∧ Chg (· = xb) wz wr) (fun i _ => n.keys.length - (RowKit.intOf i).toNat)
      case atStart => exact ⟨0, _, rfl, Nat.zero_le _, HXo.out, OwnK.nil _ _, Chg.refl _ _⟩
      case round =>
        obtain ⟨k, kv', rfl, hk, X, O, C⟩ := hrel
        have HXk := hid X
        have HOk := hid O
        have HCk := hid C
        have HWw2 : Hid (wz.heap.size ≤ wr.heap.size) := C.size
        obtain ⟨xs, h1, _⟩ := O
        have hlk1 : (n.keys.take k).length = k := by simp; omega
        rw [hlk1] at h1
        obtain ⟨q0, d0, hv0, _⟩ := row_form h1
        subst hv0
        have hxr2 : xb < wr.heap.size := X.lt
        have y2 := C.cell x2 (show ¬ w.heap.size = xb by omega)
        have HKp2 : Hid (Kp (· < w.heap.size) w wr) := fun j hj hj2 => (C.block j (by omega) (by omega)).trans (HKp.out j hj hj2)
        have HOwn := hid (show (Value.slice q0 k d0).ownBlock ≠ some xb from fun e => by have := (h1.lt _ e).1; omega)
        clear X C h1
        by_cases hx : k < n.keys.length
        · obtain ⟨gk, off, p1, c1, rfl, c10, b1, hgk⟩ := (HK.out.kp HKp2.out).get hx
          have HK1 := hid b1
          have HEq : Hid (n.keys.take (k + 1) = n.keys.take k ++ [n.keys[k]]) := List.take_succ_eq_append_getElem hx
          have HLk : Hid (((n.keys.take k).length + 1) * 24 ≤ 140737488351232) := by show _ ≤ _; simp; omega
          clear b1
          have CK := hid (fun cur (B : Below wr.heap.size wr cur) => clone_any _ _ cur (HK1.out.below B))
          unfold clEnd at CK
          have HS : Hid (∀ w', Below wr.heap.size wr w' → w'.cell? ⟨xb, 2, none⟩ = some (.slice q0 k d0) ∧ w'.cell? ⟨w.heap.size, 2, none⟩ = some (.slice (some ⟨gk, off, none⟩) n.keys.length ck) ∧ w'.cell? ⟨gk, off + k, none⟩ = some (.slice p1 n.keys[k].length c1)) := fun w' B => ⟨(HXk.out.bel B).bx.c2, below_cell B y2, below_cell B c10⟩
          have HOb : Hid (∀ w', Below wr.heap.size wr w' → OwnK w' wz.heap.size (.slice q0 k d0) (n.keys.take k)) := fun w' B => HOk.out.bel B
          have HFr : Hid (∀ j, wr.heap.size ≤ j → own' wz.heap.size (.slice q0 k d0) j) := fun j hj => ⟨by have := HWw2.out; omega, fun e => by have := (HOk.out.lt' e).2; omega⟩
          have HSp : Hid (∀ (cur : World) (v' : Value) (w' : World), Below wr.heap.size wr cur → (∀ wx, Past wx (.slice q0 k d0) v' cur w') → (w'.cell? ⟨xb, 2, none⟩ = some (.slice q0 k d0) ∧ w'.cell? ⟨w.heap.size, 2, none⟩ = some (.slice (some ⟨gk, off, none⟩) n.keys.length ck) ∧ w'.cell? ⟨gk, off + k, none⟩ = some (.slice p1 n.keys[k].length c1)) ∧ Bw w' xb (.bool n.leaf) (.slice p0 n.cells.length c0) (.slice q0 k d0) dv' ∧ Chg (· = xb) wz w') := fun cur v' w' B P =>
            have X5 := (HXk.out.bel B).past P HOwn.out
            have P0 := P cur.heap.size
            ⟨⟨X5.bx.c2, P0.cell (below_cell B y2) (Nat.ne_of_lt (cell_lt (below_cell B y2))) (fun e => by have := (HOk.out.lt' e).1; have := HWw.out; omega), P0.cell (below_cell B c10) (Nat.ne_of_lt (cell_lt (below_cell B c10))) (fun e => by have := (HOk.out.lt' e).1; have := HWw.out; omega)⟩, X5, chg_past (HCk.out.trans (Chg.of_below B) (fun _ _ h => h)) P (fun j e => (HOk.out.lt' e).1)⟩
          have B0 : Below wr.heap.size wr wr.drew := (Below.refl _ _).drew
          have hk0 : ¬ ((k : Int) < 0) := by omega
          have hkl : (k : Int) < (n.keys.length : Int) := by omega
          go_wp2
          refine wp_region_z (z := 11) (S := fun w' => w'.cell? ⟨xb, 2, none⟩ = some (.slice q0 k d0) ∧ w'.cell? ⟨w.heap.size, 2, none⟩ = some (.slice (some ⟨gk, off, none⟩) n.keys.length ck) ∧ w'.cell? ⟨gk, off + k, none⟩ = some (.slice p1 n.keys[k].length c1)) (by kernel_rfl) (HS.out _ B0) (fun hHeld => ?_)
          refine wpZ_take (i := 0) (t := 49) (v := ?_) rfl rfl (by kernel_rfl) (by kernel_rfl) (by kernel_rfl) (by kernel_rfl) (fun _ _ _ h => h) (Or.inl ⟨by rfl, ?_⟩) (by assumption) ?_
          rotate_left
          · intro wq hSw
            try dsimp only at hSw
            go_simp
            try with_reducible rfl
          try go_frame
          refine wpZ_take (i := 1) (t := 50) (v := ?_) rfl rfl (by kernel_rfl) (by kernel_rfl) (by kernel_rfl) (by kernel_rfl) (fun _ _ _ h => h) (Or.inl ⟨by rfl, ?_⟩) (by assumption) ?_
          rotate_left
          · intro wq hSw
            try dsimp only at hSw
            go_simp
            try with_reducible rfl
          try go_frame
          refine wpZ_take (i := 2) (t := 51) (v := ?_) rfl rfl (by kernel_rfl) (by kernel_rfl) (by kernel_rfl) (by kernel_rfl) (fun _ _ _ h => h) (Or.inl ⟨by rfl, ?_⟩) (by assumption) ?_
          rotate_left
          · intro wq hSw
            try dsimp only at hSw
            go_simp
            try with_reducible rfl
          try go_frame
          refine wpZ_take (i := 3) (t := 52) (v := ?_) rfl rfl (by kernel_rfl) (by kernel_rfl) (by kernel_rfl) (by kernel_rfl) (fun _ _ _ h => h) (Or.inl ⟨by rfl, ?_⟩) (by assumption) ?_
          rotate_left
          · intro wq hSw
            try dsimp only at hSw
            go_simp
            try with_reducible rfl
          try go_frame
          refine wpZ_take (i := 4) (t := 53) (v := ?_) rfl rfl (by kernel_rfl) (by kernel_rfl) (by kernel_rfl) (by kernel_rfl) (fun _ _ _ h => h) (Or.inl ⟨by rfl, ?_⟩) (by assumption) ?_
          rotate_left
          · intro wq hSw
            try dsimp only at hSw
            go_simp
            try with_reducible rfl
          try go_frame
          refine wpZ_take (i := 5) (t := 54) (v := ?_) rfl rfl (by kernel_rfl) (by kernel_rfl) (by kernel_rfl) (by kernel_rfl) (fun _ _ _ h => h) (Or.inl ⟨by rfl, ?_⟩) (by assumption) ?_
          rotate_left
          · intro wq hSw
            try dsimp only at hSw
            go_simp
            try with_reducible rfl
          try go_frame
          refine wpZ_take (i := 6) (t := 55) (v := ?_) rfl rfl (by kernel_rfl) (by kernel_rfl) (by kernel_rfl) (by kernel_rfl) (fun _ _ _ h => h) (Or.inl ⟨by rfl, ?_⟩) (by assumption) ?_
          rotate_left
          · intro wq hSw
            try dsimp only at hSw
            go_simp
            try with_reducible rfl
          try go_frame
          refine wpZ_step (i := 7) (by kernel_rfl) rfl (fun K hK => ?_)
          go_simp
          go_wp2_with (first | (go_at_call 18; with_reducible refine (CK.out _ B0).mono ?_; rintro e w3 ⟨vk, rfl, ok, bn⟩; obtain ⟨pk', ck', hvk, _⟩ := ok.form; subst hvk; have KO := ok.bvF HK1.out B0.size; have B3 := B0.trans (bn.mono B0.size); clear ok bn) | fail)
          refine hK.out _ _ (fun _ => HS.out _ B3) (fun hHeldN => ?_)
          replace hHeld := hHeldN (by decide)
          clear hK K hHeldN
          try go_frame
          refine wpZ_step (i := 8) (by kernel_rfl) rfl (fun K hK => ?_)
          go_simp
          refine hK.out _ _ (fun _ => HS.out _ (B3.alloc B3.size _)) (fun hHeldN => ?_)
          replace hHeld := hHeldN (by decide)
          clear hK K hHeldN
          try go_frame
          refine wpZ_step (i := 9) (by kernel_rfl) rfl (fun K hK => ?_)
          refine stK (HOb.out _ (B3.alloc B3.size _)) (by go_simp) ((KO.below (alloc_below _ _)).mono (fun j _ hj => HFr.out j hj)) rfl rfl rfl rfl HLk.out (le1 (Nat.le_trans HWw2.out B3.size)) ?_
          intro v5 w5 O5 P5 B5
          obtain ⟨S5, XB, C5⟩ := HSp.out _ v5 w5 (B3.alloc B3.size _) P5
          obtain ⟨p5, c5, hv5⟩ := own_kform O5 (k + 1) (by simp; omega)
          subst hv5
          have q1 := XB.bx.c2
          have f1 := XB.fz 2
          have HO5 := hid O5
          have HX5 := hid XB
          have HC5 := hid C5
          clear O5 XB C5 P5 B5
          refine hK.out _ _ (fun _ => S5) (fun hHeldN => ?_)
          replace hHeld := hHeldN (by decide)
          clear hK K hHeldN
          try go_frame
          refine wpZ_take (i := 10) (t := 59) (v := ?_) rfl rfl (by kernel_rfl) (by kernel_rfl) (by kernel_rfl) (by kernel_rfl) (fun _ _ _ h => h) (Or.inl ⟨by rfl, ?_⟩) (by assumption) ?_
          rotate_left
          · intro wq hSw
            try dsimp only at hSw
            go_simp
            try with_reducible rfl
          try go_frame
          refine wpZ_step (i := 11) (by kernel_rfl) rfl (fun K hK => ?_)
          go_simp
          refine hK.out _ _ (fun h => absurd rfl h) (fun _ => ?_)
          clear hK K
          refine wpZ_done (by kernel_rfl) ?_

          go_wp2
          have HO6 : Hid (OwnK (w5.setCell ⟨xb, 2, none⟩ (.slice p5 (k + 1) c5)) wz.heap.size (.slice p5 (k + 1) c5) (n.keys.take (k + 1))) := by
            show OwnK _ _ _ _
            rw [HEq.out]
            exact HO5.out.kp (Kp.of_set (by omega))
          go_roundw
          case rel => exact ⟨k + 1, _, by go_num, by omega, HX5.out.set2 _, HO6.out, HC5.out.setCell (p := ⟨xb, 2, none⟩) (Or.inl rfl) _⟩
          case measure => simp [RowKit.intOf]; omega
        · obtain rfl : k = n.keys.length := by omega
          have HO2 : Hid (OwnK wr wz.heap.size (.slice q0 n.keys.length d0) n.keys) := by have := HOk.out; rw [List.take_length] at this; exact this
          obtain ⟨⟨r0, r1, r2, r3⟩, rf⟩ := HXz.out.same (HCk.out.block (w.heap.size + 1) (by have := HWw.out; omega) (by omega))
          obtain ⟨⟨t0, t1, t2, t3⟩, tf⟩ := HXk.out
          have r4 := rf 0
          have r5 := rf 1
          have r6 := rf 2
          have r7 := rf 3
          obtain ⟨pd', cd', hvd, _⟩ := row_form HD1z.out
          subst hvd
          have hbig : w.heap.size + 2 ≤ wc.heap.size := by omega
          have HNV : Hid (∀ y0 y1 y2 y3, NV ((((wr.setCell ⟨w.heap.size + 1, 0, none⟩ y0).setCell ⟨w.heap.size + 1, 1, none⟩ y1).setCell ⟨w.heap.size + 1, 2, none⟩ y2).setCell ⟨w.heap.size + 1, 3, none⟩ y3) (w.heap.size ≤ ·) (.slice p0 n.cells.length c0) (.slice q0 n.keys.length d0) (.slice pd' n.kids.length cd') n) := fun y0 y1 y2 y3 => by
            have K1 : Kp (wc.heap.size ≤ ·) wz ((((wr.setCell ⟨w.heap.size + 1, 0, none⟩ y0).setCell ⟨w.heap.size + 1, 1, none⟩ y1).setCell ⟨w.heap.size + 1, 2, none⟩ y2).setCell ⟨w.heap.size + 1, 3, none⟩ y3) := fun j hj hF => (heap_put4 _ _ _ _ _ _ _ (by omega)).trans (HCk.out.block j hj (by omega))
            have K2 : Kp (wz.heap.size ≤ ·) wr ((((wr.setCell ⟨w.heap.size + 1, 0, none⟩ y0).setCell ⟨w.heap.size + 1, 1, none⟩ y1).setCell ⟨w.heap.size + 1, 2, none⟩ y2).setCell ⟨w.heap.size + 1, 3, none⟩ y3) := fun j hj hF => heap_put4 _ _ _ _ _ _ _ (by have := HWw.out; omega)
            refine ⟨((HO1.out.kp K1).csv hlc).mono (fun j _ hF => by omega), ((HO2.out.kp K2).ksv hlk).mono (fun j _ hF => by have := HWw.out; omega), ((OwnD.dsv (base := w.heap.size + 2) (rows_same HD1z.out (fun j hj => ?_)) hld HI.out)).mono (fun j _ hF => by omega)⟩
            have h2 := HD1z.out.lt j hj
            exact (heap_put4 _ _ _ _ _ _ _ (by omega)).trans (HCk.out.block j h2.2 (fun e => hdx (by rw [hj, e])))
          have HBe : Hid (Below w.heap.size w wr) := ⟨HCk.out.os.trans (HCo.out.os.trans (HB1.out.os.trans HBW.out.os)), HCk.out.tape.trans (HCo.out.tape.trans (HB1.out.tape.trans HBW.out.tape)), HCk.out.output.trans (HCo.out.output.trans (HB1.out.output.trans HBW.out.output)), by have := HWw.out; have := HWw2.out; omega, fun j hj => HKp2.out j hj hj⟩
          clear HO1 HO2 HD1z HK HOk
          go_wp2
          refine bodyPost_ret (by simp [results, Try.results9, go_sem, r0, r1, r2, r3]; try rfl) rfl ?_
          exact ⟨_, _, _, rfl, HNV.out _ _ _ _, bel_put4 HBe.out (by omega) _ _ _ _⟩
end Go.Proofs.Ytilmlegkkgiahaa
