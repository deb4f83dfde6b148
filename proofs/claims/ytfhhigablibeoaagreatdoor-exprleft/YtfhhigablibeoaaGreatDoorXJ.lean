/- What stands within brackets: what the functions do that brackets is handed. Conditions: none. What called of the reader of package expr does. Conditions: none. What literal of package expr does. Conditions: none. What item of the reader of package expr does. Conditions: none. -/
import Derived.Test.YtfhhigablibeoaaGreatDoorXI
import Derived.Test.YtfhhigablibeoaaGreatDoorExRow
import Derived.Test.YtfhhigablibeoaaGreatDoorExCl
import Derived.Test.YtfhhigablibeoaaGreatDoorXG
namespace Go.Proofs.YtfhhigablibeoaaGreatDoor
open Go.RowKit Go.Lib Go.Sort
set_option linter.unusedVariables false
set_option maxRecDepth 20000

/-- A variable that holds an expression, with its operands in memory. -/
def QB (eb N : Nat) (w : World) (e : Ex) : Prop := ∃ pe ce, BX w eb e pe ce ∧ ∃ k, EAt w (fun j => N ≤ j ∧ j ≠ eb) k e pe
theorem QB.chg {eb N rb : Nat} {w w' : World} {e : Ex} (h : QB eb N w e) (C : Chg (· = rb) w w') (he : eb ≠ rb) (hN : rb < N) : QB eb N w' e := by
  obtain ⟨pe, ce, hb, k, hk⟩ := h
  exact ⟨pe, ce, hb.chg C he, k, hk.chg C (fun j q r => by omega)⟩
set_option maxHeartbeats 8000000 in
theorem item1_any {w w0 : World} {rb b1 eb N : Nat} {p : Option Addr} {c : Nat} {xs l l0 : Ts} {d d0 : Nat} {g : Ts → Rd Ex} {e0 : Ex} {p0 : Option Addr} {c0 : Nat} (h : RS w rb p c xs l d) (h0 : RS w0 rb p c xs l0 d0) (hb0 : w0.heap.size ≤ eb) (hr : w.cell? ⟨b1, 0, none⟩ = some (.pointer (some ⟨rb, 0, none⟩))) (hb : BX w eb e0 p0 c0) (hN : N ≤ w.heap.size) (hG : LineOk rb p c xs d 70 #[.pointer (some ⟨rb + 25, 0, none⟩), .pointer (some ⟨rb + 23, 0, none⟩), .pointer (some ⟨rb + 24, 0, none⟩)] g) :
    Calls Tryz.prog 64 #[.pointer (some ⟨b1, 0, none⟩), .pointer (some ⟨eb, 0, none⟩)] w (RdG (fun k => k = rb ∨ k = eb) (fun w'' v a => v = .tuple #[] ∧ QB eb N w'' a) rb p c xs d (g l) w) := by
  have HP := hid (hG _ _ h)
  unfold RdE QX QF at HP
  have c3 := h.c3
  rw [orV_eq] at c3
  have H0 := hid h0
  have hlt0 := h0.lt
  have hltw : eb < w.heap.size := (Array.getElem?_eq_some_iff.1 hb).1
  have HB := hid hb
  clear h h0 hG
  cases hg : g l with
  | error x =>
    rw [hg] at HP
    simp only [] at HP
    go_enter Tryz.func64, Tryz.ntmps64
    go_wp2_with (first
      | (go_at_call 70; go_loud (with_reducible refine HP.out.mono ?_); rintro e1 w1 ⟨c1, b1, rfl, f1⟩)
      | fail)
    exact ⟨rfl, frl c1, b1, rfl, f1⟩
  | ok y =>
    obtain ⟨e, l1⟩ := y
    rw [hg] at HP
    simp only [] at HP
    go_enter Tryz.func64, Tryz.ntmps64
    go_wp2_with (first
      | (go_at_call 70; go_loud (with_reducible refine HP.out.mono ?_); rintro e1 w1 ⟨c1, v1, rfl, ⟨pe, ce, rfl, k1, E1⟩, r1⟩; have C1 := hid c1; have HE1 := hid E1; have HR1 := hid r1; have bx := HB.out.chg c1 (show ¬ (eb = rb) by omega); have HBX := hid bx; obtain ⟨y0, y1, y2, y3, y4, y5, y6, y7, y8, y9⟩ := bx.xc; simp only [Nat.zero_add] at y0 y1 y2 y3 y4 y5 y6 y7 y8 y9; have yf := bx.frozen; clear c1 E1 r1 bx)
      | fail)
    have K := put10_chg w1 eb (.int .i64 e.k) (.int .i64 e.op) (.int .i64 e.v.k) (.int .i64 e.v.n) (.string e.v.s) (.string ⟨e.t.toArray⟩) (.string ⟨e.n.toArray⟩) (.int .i64 0) (.int .i64 0) (.slice pe e.xs.length ce)
    refine end0 rfl rfl ⟨?_, _, rfl, ⟨rfl, pe, ce, HBX.out.put, k1, ?_⟩, H0.out.fresh HR1.out hb0 K⟩
    · exact frm (frl C1.out) (K.mono (fun j _ q => Or.inr q))
    · exact (HE1.out.mono (G := fun j => N ≤ j ∧ j ≠ eb) (fun j _ q => ⟨by omega, by omega⟩)).chg K (fun j q r => q.2 r)
/-- A call's cells. -/
def CX (w : World) (b : Nat) (k o : Int) (s : ByteArray) (n : Int) : Prop := w.cell? ⟨b, 0, none⟩ = some (.int .i64 k) ∧ w.cell? ⟨b, 1, none⟩ = some (.int .i64 o) ∧ w.cell? ⟨b, 2, none⟩ = some (.string s) ∧ w.cell? ⟨b, 3, none⟩ = some (.int .i64 n)
theorem CX.chg {F : Nat → Prop} {w w' : World} {b : Nat} {k o : Int} {s : ByteArray} {n : Int} (h : CX w b k o s n) (C : Chg F w w') (hn : ¬ F b) : CX w' b k o s n := ⟨C.cell h.1 hn, C.cell h.2.1 hn, C.cell h.2.2.1 hn, C.cell h.2.2.2 hn⟩
theorem cals_cnt : ∀ o ∈ cals, 1 ≤ o.cnt ∧ o.cnt ≤ 3 := by decide
theorem BX.args {w : World} {b : Nat} {k o : Int} {es : List Ex} {p : Option Addr} {c : Nat} (h : BX w b (mkE k o []) none 0) : BX (w.setCell ⟨b, 9, none⟩ (.slice p es.length c)) b (mkE k o es) p c := by
  have := heap_setCell_same w b 9 _ _ (.slice p es.length c) h
  simpa [BX, mkE] using this
set_option maxHeartbeats 16000000 in
theorem called1_any {w w0 : World} {rb b1 cb eb N : Nat} {p : Option Addr} {c : Nat} {xs l l0 : Ts} {d d0 : Nat} {g : Ts → Rd Ex} (o : Cal) (ho : o ∈ cals) (h : RS w rb p c xs l d) (h0 : RS w0 rb p c xs l0 d0) (hb0 : w0.heap.size ≤ eb) (hcb : cb ≠ rb) (hb1 : b1 ≠ rb) (hr : w.cell? ⟨b1, 0, none⟩ = some (.pointer (some ⟨rb, 0, none⟩))) (hcx : CX w cb o.kind o.op ⟨o.name.toArray⟩ (o.cnt : Int)) (hb : BX w eb (mkE o.kind o.op []) none 0) (hN : N ≤ w.heap.size) (hG : LineOk rb p c xs d 70 #[.pointer (some ⟨rb + 25, 0, none⟩), .pointer (some ⟨rb + 23, 0, none⟩), .pointer (some ⟨rb + 24, 0, none⟩)] g) :
    Calls Tryz.prog 97 #[.pointer (some ⟨cb, 0, none⟩), .pointer (some ⟨b1, 0, none⟩), .pointer (some ⟨eb, 0, none⟩)] w (RdG (fun k => k = rb ∨ k = eb) (fun w'' v a => v = .tuple #[] ∧ QB eb N w'' (mkE o.kind o.op a)) rb p c xs d (inP g o l) w) := by
  have HCt := hid (fun w => counts_any o w)
  have HTk := hid (fun w' (r : RS w' rb p c xs l d) => take_any 5 [42] r (by decide))
  have HOp := hid (fun w' l' (r : RS w' rb p c xs l' d) => operands_any o.cnt (cals_cnt o ho).1 (cals_cnt o ho).2 r hG)
  have HH := hid h
  have H0 := hid h0
  have HB := hid hb
  have HCX := hid hcx
  have hlt := h.lt
  have hlt0 := h0.lt
  have hltw : eb < w.heap.size := (Array.getElem?_eq_some_iff.1 hb).1
  obtain ⟨x0, x1, x2, x3⟩ := hcx
  have HHr := hid hr
  unfold inP
  clear h h0 hb hG
  cases hal : o.all with
  | true =>
    rw [hal] at HCt
    cases hs : stn 5 [42] l with
    | true =>
      rw [hs] at HTk
      simp only [if_true, Bool.and_self] at HTk ⊢
      go_enter Tryz.func97, Tryz.ntmps97
      go_wp2_with (first
        | (go_at_call 76; go_loud (with_reducible refine (HCt.out _).mono ?_); rintro e1 w1 ⟨rfl, b1'⟩; have B1 := hid b1'; have hr1 := lxbelow_cell b1' HHr.out; have TK := hid (HTk.out _ (HH.out.below b1')); clear b1')
        | (go_at_call 73; go_loud (with_reducible refine TK.out.mono ?_); rintro e2 w2 ⟨rfl, c2, r2⟩; have C2 := hid c2; have R2 := hid r2; clear c2 r2)
        | fail)
      have CC := chg_trans (chg_below (rb := rb) B1.out) C2.out
      refine ret0 rfl rfl ⟨frl CC, _, rfl, ⟨rfl, none, 0, HB.out.chg CC (show ¬ (eb = rb) by omega), 0, rfl⟩, R2.out⟩
    | false =>
      rw [hs] at HTk
      simp only [Bool.false_eq_true, if_false, Bool.and_false] at HTk ⊢
      have HOp2 := hid (fun w' (r : RS w' rb p c xs l d) => HOp.out w' l r)
      unfold RdE QL at HOp
      cases hop : opsP g o.cnt l with
      | error x =>
        replace HOp := hid (fun w' (l' : Ts) (r : RS w' rb p c xs l d) => HOp2.out w' r)
        unfold RdE at HOp
        rw [hop] at HOp
        simp only [] at HOp
        replace HOp := hid (fun w' (l' : Unit) (r : RS w' rb p c xs l d) => HOp.out w' [] r)
        clear HOp2
        go_enter Tryz.func97, Tryz.ntmps97
        go_wp2_with (first
                  | (go_at_call 76; go_loud (with_reducible refine (HCt.out _).mono ?_); rintro e1 w1 ⟨rfl, b1'⟩; have B1 := hid b1'; have hr1 := lxbelow_cell b1' HHr.out; have TK := hid (HTk.out _ (HH.out.below b1')); have CC := hid (chg_below (rb := rb) b1'); have RC := hid (HH.out.below b1'); have x3' := lxbelow_cell b1' HCX.out.2.2.2; have OO := hid (HOp.out _ () (HH.out.below b1')); clear b1')
                  | (go_at_call 73; go_loud (with_reducible refine TK.out.mono ?_); rintro e2 w2 ⟨rfl, c2, r2⟩; have hr2 := c2.cell hr1 (show ¬ (b1 = rb) from hb1); have x3'' := c2.cell x3' (show ¬ (cb = rb) from hcb); have OO := hid (HOp.out _ () r2); replace CC := hid (chg_trans CC.out c2); have RC := hid r2; clear c2 r2)
                  | (go_at_call 98; go_loud (with_reducible refine OO.out.mono ?_); rintro e3 w3 ⟨c3, b3, rfl, f3⟩)
                  | fail)
        exact ⟨rfl, frl (chg_trans CC.out c3), b3, rfl, f3⟩
      | ok y =>
        obtain ⟨es, l2⟩ := y
        replace HOp := hid (fun w' (l' : Ts) (r : RS w' rb p c xs l d) => HOp2.out w' r)
        unfold RdE QL at HOp
        rw [hop] at HOp
        simp only [] at HOp
        replace HOp := hid (fun w' (l' : Unit) (r : RS w' rb p c xs l d) => HOp.out w' [] r)
        clear HOp2
        go_enter Tryz.func97, Tryz.ntmps97
        go_wp2_with (first
                  | (go_at_call 76; go_loud (with_reducible refine (HCt.out _).mono ?_); rintro e1 w1 ⟨rfl, b1'⟩; have B1 := hid b1'; have hr1 := lxbelow_cell b1' HHr.out; have TK := hid (HTk.out _ (HH.out.below b1')); have CC := hid (chg_below (rb := rb) b1'); have RC := hid (HH.out.below b1'); have x3' := lxbelow_cell b1' HCX.out.2.2.2; have OO := hid (HOp.out _ () (HH.out.below b1')); clear b1')
                  | (go_at_call 73; go_loud (with_reducible refine TK.out.mono ?_); rintro e2 w2 ⟨rfl, c2, r2⟩; have hr2 := c2.cell hr1 (show ¬ (b1 = rb) from hb1); have x3'' := c2.cell x3' (show ¬ (cb = rb) from hcb); have OO := hid (HOp.out _ () r2); replace CC := hid (chg_trans CC.out c2); have RC := hid r2; clear c2 r2)
                  | (go_at_call 98; go_loud (with_reducible refine OO.out.mono ?_); rintro e3 w3 ⟨c3, v3, rfl, ⟨els, rfl, O3, E3⟩, r3⟩; have C3 := hid c3; have HO3 := hid O3; have HE3 := hid E3; have HR3 := hid r3; have bx := HB.out.chg (chg_trans CC.out c3) (show ¬ (eb = rb) by omega); have HBX := hid bx; have y9 := bx.xc.2.2.2.2.2.2.2.2.2; simp only [Nat.zero_add] at y9; have yf := bx.frozen 9; obtain ⟨pv, cv, hv⟩ := O3.form; subst hv; have hCs := CC.out.size; have hcs := c3.size; clear c3 O3 E3 r3 bx)
                  | fail)
        have K : Chg (· = eb) w3 (w3.setCell ⟨eb, 9, none⟩ (.slice pv els.length cv)) := Chg.setCell (F := (· = eb)) (p := ⟨eb, 9, none⟩) (Chg.refl _ _) (Or.inl rfl) _
        obtain ⟨p', c', hv', n', hE'⟩ := HO3.out.eat (F := fun j => N ≤ j ∧ j ≠ eb) (fun j q => ⟨by omega, by omega⟩) (fun x hx => by obtain ⟨k, hk⟩ := HE3.out x hx; exact ⟨k, hk.mono (fun j _ q => ⟨by omega, by omega⟩)⟩) o.kind o.op
        cases hv'
        have hBX : BX (w3.setCell ⟨eb, 9, none⟩ (.slice pv els.length cv)) eb (mkE o.kind o.op (els.map (·.1))) pv cv := by
          have := HBX.out.args (es := els.map (·.1)) (p := pv) (c := cv)
          rw [List.length_map] at this
          exact this
        exact end0 rfl rfl ⟨frm (frl (chg_trans CC.out C3.out)) (K.mono (fun j _ q => Or.inr q)), _, rfl, ⟨rfl, pv, cv, hBX, n', hE'.chg K (fun j q r => q.2 r)⟩, H0.out.fresh HR3.out hb0 K⟩
  | false =>
    rw [hal] at HCt
    simp only [Bool.false_and, Bool.false_eq_true, if_false] at HCt ⊢
    have HOp2 := hid (fun w' (r : RS w' rb p c xs l d) => HOp.out w' l r)
    unfold RdE QL at HOp
    cases hop : opsP g o.cnt l with
    | error x =>
      replace HOp := hid (fun w' (l' : Ts) (r : RS w' rb p c xs l d) => HOp2.out w' r)
      unfold RdE at HOp
      rw [hop] at HOp
      simp only [] at HOp
      replace HOp := hid (fun w' (l' : Unit) (r : RS w' rb p c xs l d) => HOp.out w' [] r)
      clear HOp2
      go_enter Tryz.func97, Tryz.ntmps97
      go_wp2_with (first
                | (go_at_call 76; go_loud (with_reducible refine (HCt.out _).mono ?_); rintro e1 w1 ⟨rfl, b1'⟩; have B1 := hid b1'; have hr1 := lxbelow_cell b1' HHr.out; have TK := hid (HTk.out _ (HH.out.below b1')); have CC := hid (chg_below (rb := rb) b1'); have RC := hid (HH.out.below b1'); have x3' := lxbelow_cell b1' HCX.out.2.2.2; have OO := hid (HOp.out _ () (HH.out.below b1')); clear b1')
                | (go_at_call 98; go_loud (with_reducible refine OO.out.mono ?_); rintro e3 w3 ⟨c3, b3, rfl, f3⟩)
                | fail)
      exact ⟨rfl, frl (chg_trans CC.out c3), b3, rfl, f3⟩
    | ok y =>
      obtain ⟨es, l2⟩ := y
      replace HOp := hid (fun w' (l' : Ts) (r : RS w' rb p c xs l d) => HOp2.out w' r)
      unfold RdE QL at HOp
      rw [hop] at HOp
      simp only [] at HOp
      replace HOp := hid (fun w' (l' : Unit) (r : RS w' rb p c xs l d) => HOp.out w' [] r)
      clear HOp2
      go_enter Tryz.func97, Tryz.ntmps97
      go_wp2_with (first
                | (go_at_call 76; go_loud (with_reducible refine (HCt.out _).mono ?_); rintro e1 w1 ⟨rfl, b1'⟩; have B1 := hid b1'; have hr1 := lxbelow_cell b1' HHr.out; have TK := hid (HTk.out _ (HH.out.below b1')); have CC := hid (chg_below (rb := rb) b1'); have RC := hid (HH.out.below b1'); have x3' := lxbelow_cell b1' HCX.out.2.2.2; have OO := hid (HOp.out _ () (HH.out.below b1')); clear b1')
                | (go_at_call 98; go_loud (with_reducible refine OO.out.mono ?_); rintro e3 w3 ⟨c3, v3, rfl, ⟨els, rfl, O3, E3⟩, r3⟩; have C3 := hid c3; have HO3 := hid O3; have HE3 := hid E3; have HR3 := hid r3; have bx := HB.out.chg (chg_trans CC.out c3) (show ¬ (eb = rb) by omega); have HBX := hid bx; have y9 := bx.xc.2.2.2.2.2.2.2.2.2; simp only [Nat.zero_add] at y9; have yf := bx.frozen 9; obtain ⟨pv, cv, hv⟩ := O3.form; subst hv; have hCs := CC.out.size; have hcs := c3.size; clear c3 O3 E3 r3 bx)
                | fail)
      have K : Chg (· = eb) w3 (w3.setCell ⟨eb, 9, none⟩ (.slice pv els.length cv)) := Chg.setCell (F := (· = eb)) (p := ⟨eb, 9, none⟩) (Chg.refl _ _) (Or.inl rfl) _
      obtain ⟨p', c', hv', n', hE'⟩ := HO3.out.eat (F := fun j => N ≤ j ∧ j ≠ eb) (fun j q => ⟨by omega, by omega⟩) (fun x hx => by obtain ⟨k, hk⟩ := HE3.out x hx; exact ⟨k, hk.mono (fun j _ q => ⟨by omega, by omega⟩)⟩) o.kind o.op
      cases hv'
      have hBX : BX (w3.setCell ⟨eb, 9, none⟩ (.slice pv els.length cv)) eb (mkE o.kind o.op (els.map (·.1))) pv cv := by
        have := HBX.out.args (es := els.map (·.1)) (p := pv) (c := cv)
        rw [List.length_map] at this
        exact this
      exact end0 rfl rfl ⟨frm (frl (chg_trans CC.out C3.out)) (K.mono (fun j _ q => Or.inr q)), _, rfl, ⟨rfl, pv, cv, hBX, n', hE'.chg K (fun j q r => q.2 r)⟩, H0.out.fresh HR3.out hb0 K⟩
end Go.Proofs.YtfhhigablibeoaaGreatDoor
namespace Go.Proofs.YtfhhigablibeoaaGreatDoor
open Go.RowKit Go.Lib Go.Sort
set_option linter.unusedVariables false
set_option maxRecDepth 20000

theorem fr_new {rb eb : Nat} {a x y : World} (h : Chg (· = rb) a x) (hb : a.heap.size ≤ eb) (k : Chg (fun k => k = rb ∨ k = eb) x y) : Chg (· = rb) a y :=
  h.trans k (fun j hj q => by rcases q with q | q; exact q; omega)
theorem brkP_some {α : Type} (g : Ts → Rd Ex) (h : (Ts → Rd Ex) → Ts → Rd α) (l : Ts) : brkP (some g) h l = brkE (h g l.tail) := by
  show ((match h g l.tail with | Except.error x => Except.error x | Except.ok y => match mustP 5 [41] y.2 with | Except.error x => Except.error x | Except.ok r => Except.ok (y.1, r)) : Rd α) = _
  unfold brkE
  generalize h g l.tail = r
  cases r <;> rfl
set_option maxHeartbeats 16000000 in
theorem called_any {w : World} {rb : Nat} {p : Option Addr} {c : Nat} {xs l : Ts} {d : Nat} {prev : Option (Ts → Rd Ex)} (o : Cal) (ho : o ∈ cals) (h : RS w rb p c xs l d) (hl : l ≠ []) (hprev : ∀ g, prev = some g → ∃ d', d = d' + 1 ∧ LineOk rb p c xs d' 70 #[.pointer (some ⟨rb + 25, 0, none⟩), .pointer (some ⟨rb + 23, 0, none⟩), .pointer (some ⟨rb + 24, 0, none⟩)] g) (hnone : prev = none → d = 0) :
    Calls Tryz.prog 68 #[.pointer (some ⟨rb, 0, none⟩), .agg #[.int .i64 o.kind, .int .i64 o.op, .string ⟨o.name.toArray⟩, .int .i64 (o.cnt : Int)]] w (RdE (QX w.heap.size) rb p c xs d (match brkP prev (fun g => inP g o) l with | .error x => .error x | .ok y => .ok (mkE o.kind o.op y.1, y.2)) w) := by
  have HH := hid h
  have hlt := h.lt
  obtain ⟨hs3, e1, e2, e3⟩ := alc3 w (.cells #[.pointer (some ⟨rb, 0, none⟩)] 59) (.cells #[.int .i64 o.kind, .int .i64 o.op, .string ⟨o.name.toArray⟩, .int .i64 (o.cnt : Int)] 120) (.cells #[.int .i64 0, .int .i64 0, .int .i64 0, .int .i64 0, .string ⟨#[]⟩, .string ⟨#[]⟩, .string ⟨#[]⟩, .int .i64 0, .int .i64 0, .slice none 0 0] 32)
  have A4 := albl (((w.alloc (.cells #[.pointer (some ⟨rb, 0, none⟩)] 59)).alloc (.cells #[.int .i64 o.kind, .int .i64 o.op, .string ⟨o.name.toArray⟩, .int .i64 (o.cnt : Int)] 120)).alloc (.cells #[.int .i64 0, .int .i64 0, .int .i64 0, .int .i64 0, .string ⟨#[]⟩, .string ⟨#[]⟩, .string ⟨#[]⟩, .int .i64 0, .int .i64 0, .slice none 0 0] 32)) (.cells #[.int .i64 o.kind, .int .i64 o.op, .int .i64 0, .int .i64 0, .string ⟨#[]⟩, .string ⟨#[]⟩, .string ⟨#[]⟩, .int .i64 0, .int .i64 0, .slice none 0 0] 32)
  have e4 := heap_alloc_new (((w.alloc (.cells #[.pointer (some ⟨rb, 0, none⟩)] 59)).alloc (.cells #[.int .i64 o.kind, .int .i64 o.op, .string ⟨o.name.toArray⟩, .int .i64 (o.cnt : Int)] 120)).alloc (.cells #[.int .i64 0, .int .i64 0, .int .i64 0, .int .i64 0, .string ⟨#[]⟩, .string ⟨#[]⟩, .string ⟨#[]⟩, .int .i64 0, .int .i64 0, .slice none 0 0] 32)) (.cells #[.int .i64 o.kind, .int .i64 o.op, .int .i64 0, .int .i64 0, .string ⟨#[]⟩, .string ⟨#[]⟩, .string ⟨#[]⟩, .int .i64 0, .int .i64 0, .slice none 0 0] 32)
  rw [hs3] at e4 A4
  have B4 : Below w.heap.size w ((((w.alloc (.cells #[.pointer (some ⟨rb, 0, none⟩)] 59)).alloc (.cells #[.int .i64 o.kind, .int .i64 o.op, .string ⟨o.name.toArray⟩, .int .i64 (o.cnt : Int)] 120)).alloc (.cells #[.int .i64 0, .int .i64 0, .int .i64 0, .int .i64 0, .string ⟨#[]⟩, .string ⟨#[]⟩, .string ⟨#[]⟩, .int .i64 0, .int .i64 0, .slice none 0 0] 32)).alloc (.cells #[.int .i64 o.kind, .int .i64 o.op, .int .i64 0, .int .i64 0, .string ⟨#[]⟩, .string ⟨#[]⟩, .string ⟨#[]⟩, .int .i64 0, .int .i64 0, .slice none 0 0] 32)) := (((Below.refl _ _).alloc (Nat.le_refl _) _).alloc (by simp) _).alloc (by simp; omega) _ |>.trans (A4.mono (by omega))
  have hs4 : ((((w.alloc (.cells #[.pointer (some ⟨rb, 0, none⟩)] 59)).alloc (.cells #[.int .i64 o.kind, .int .i64 o.op, .string ⟨o.name.toArray⟩, .int .i64 (o.cnt : Int)] 120)).alloc (.cells #[.int .i64 0, .int .i64 0, .int .i64 0, .int .i64 0, .string ⟨#[]⟩, .string ⟨#[]⟩, .string ⟨#[]⟩, .int .i64 0, .int .i64 0, .slice none 0 0] 32)).alloc (.cells #[.int .i64 o.kind, .int .i64 o.op, .int .i64 0, .int .i64 0, .string ⟨#[]⟩, .string ⟨#[]⟩, .string ⟨#[]⟩, .int .i64 0, .int .i64 0, .slice none 0 0] 32)).heap.size = w.heap.size + 4 := by rw [show w.heap.size + 4 = w.heap.size + 3 + 1 from rfl, ← hs3]; simp
  have f1 := (A4.block _ (by omega)).trans e1
  have f2 := (A4.block _ (by omega)).trans e2
  have f3 := (A4.block _ (by omega)).trans e3
  have HR4 := hid (h.below B4)
  have HB4 := hid B4
  have HX : Hid (BX ((((w.alloc (.cells #[.pointer (some ⟨rb, 0, none⟩)] 59)).alloc (.cells #[.int .i64 o.kind, .int .i64 o.op, .string ⟨o.name.toArray⟩, .int .i64 (o.cnt : Int)] 120)).alloc (.cells #[.int .i64 0, .int .i64 0, .int .i64 0, .int .i64 0, .string ⟨#[]⟩, .string ⟨#[]⟩, .string ⟨#[]⟩, .int .i64 0, .int .i64 0, .slice none 0 0] 32)).alloc (.cells #[.int .i64 o.kind, .int .i64 o.op, .int .i64 0, .int .i64 0, .string ⟨#[]⟩, .string ⟨#[]⟩, .string ⟨#[]⟩, .int .i64 0, .int .i64 0, .slice none 0 0] 32)) (w.heap.size + 3) (mkE o.kind o.op []) none 0) := e4
  have HRes : Hid (ResX ((((w.alloc (.cells #[.pointer (some ⟨rb, 0, none⟩)] 59)).alloc (.cells #[.int .i64 o.kind, .int .i64 o.op, .string ⟨o.name.toArray⟩, .int .i64 (o.cnt : Int)] 120)).alloc (.cells #[.int .i64 0, .int .i64 0, .int .i64 0, .int .i64 0, .string ⟨#[]⟩, .string ⟨#[]⟩, .string ⟨#[]⟩, .int .i64 0, .int .i64 0, .slice none 0 0] 32)).alloc (.cells #[.int .i64 o.kind, .int .i64 o.op, .int .i64 0, .int .i64 0, .string ⟨#[]⟩, .string ⟨#[]⟩, .string ⟨#[]⟩, .int .i64 0, .int .i64 0, .slice none 0 0] 32)) (w.heap.size + 2)) := f3
  have HCX : Hid (CX ((((w.alloc (.cells #[.pointer (some ⟨rb, 0, none⟩)] 59)).alloc (.cells #[.int .i64 o.kind, .int .i64 o.op, .string ⟨o.name.toArray⟩, .int .i64 (o.cnt : Int)] 120)).alloc (.cells #[.int .i64 0, .int .i64 0, .int .i64 0, .int .i64 0, .string ⟨#[]⟩, .string ⟨#[]⟩, .string ⟨#[]⟩, .int .i64 0, .int .i64 0, .slice none 0 0] 32)).alloc (.cells #[.int .i64 o.kind, .int .i64 o.op, .int .i64 0, .int .i64 0, .string ⟨#[]⟩, .string ⟨#[]⟩, .string ⟨#[]⟩, .int .i64 0, .int .i64 0, .slice none 0 0] 32)) (w.heap.size + 1) o.kind o.op ⟨o.name.toArray⟩ (o.cnt : Int)) := by
    refine ⟨?_, ?_, ?_, ?_⟩ <;> (rw [Lib.cell_of_heap f2]; rfl)
  have x0 : ((((w.alloc (.cells #[.pointer (some ⟨rb, 0, none⟩)] 59)).alloc (.cells #[.int .i64 o.kind, .int .i64 o.op, .string ⟨o.name.toArray⟩, .int .i64 (o.cnt : Int)] 120)).alloc (.cells #[.int .i64 0, .int .i64 0, .int .i64 0, .int .i64 0, .string ⟨#[]⟩, .string ⟨#[]⟩, .string ⟨#[]⟩, .int .i64 0, .int .i64 0, .slice none 0 0] 32)).alloc (.cells #[.int .i64 o.kind, .int .i64 o.op, .int .i64 0, .int .i64 0, .string ⟨#[]⟩, .string ⟨#[]⟩, .string ⟨#[]⟩, .int .i64 0, .int .i64 0, .slice none 0 0] 32)).cell? ⟨w.heap.size, 0, none⟩ = some (.pointer (some ⟨rb, 0, none⟩)) := by rw [Lib.cell_of_heap f1]; rfl
  have HX0 := hid x0
  clear e1 e2 e3 e4 f1 f2 f3 A4 B4 h hs3
  cases hpv : prev with
  | none =>
    obtain rfl := hnone hpv
    have HBr := hid (fun v => brackets_no v HR4.out)
    show Calls _ _ _ _ (RdE _ _ _ _ _ _ (.error (l, 21)) _)
    clear hpv hnone hprev
    go_enter Tryz.func68, Tryz.ntmps68
    go_upto_region 2 with fail
    generalize hW4 : World.alloc _ (.cells #[.int .i64 o.kind, .int .i64 o.op, .int .i64 0, .int .i64 0, .string ⟨#[]⟩, .string ⟨#[]⟩, .string ⟨#[]⟩, .int .i64 0, .int .i64 0, .slice none 0 0] 32) = W4 at *
    clear hW4
    go_wp2_with (first
      | (go_at_call 63; go_loud (with_reducible refine (HBr.out _).mono ?_); rintro e5 w5 ⟨b5, bb, rfl, f5⟩)
      | fail)
    exact ⟨rfl, chg_trans (chg_below HB4.out) (chg_below b5), bb, rfl, f5⟩
  | some g =>
    obtain ⟨d', rfl, hG⟩ := hprev g hpv
    rw [brkP_some]
    have HBr := hid (brackets_yes (eb := w.heap.size + 3) (cs := #[.pointer (some ⟨w.heap.size + 1, 0, none⟩), .pointer (some ⟨w.heap.size, 0, none⟩), .pointer (some ⟨w.heap.size + 3, 0, none⟩)]) (inP g o l.tail) (fun w' a => QB (w.heap.size + 3) (w.heap.size + 4) w' (mkE o.kind o.op a)) HR4.out hl Tryz.call97
      (fun w' C r => called1_any o ho r HH.out (by omega) (by omega) (by omega) (C.cell HX0.out (show ¬ (w.heap.size = rb) by omega)) (HCX.out.chg C (show ¬ (w.heap.size + 1 = rb) by omega)) (HX.out.chg C (show ¬ (w.heap.size + 3 = rb) by omega)) (by have := C.size; omega) hG)
      (fun a w1 w2 C q => q.chg C (by omega) (by omega)))
    clear hpv hnone hprev
    unfold RdG QB at HBr
    obtain ⟨R, HRr⟩ : ∃ R, Hid (brkE (inP g o l.tail) = R) := ⟨_, rfl⟩
    rw [HRr.out] at HBr ⊢
    clear HRr hG
    cases R with
    | error x =>
      simp only [] at HBr ⊢
      go_enter Tryz.func68, Tryz.ntmps68
      go_upto_region 2 with fail
      generalize hW4 : World.alloc _ (.cells #[.int .i64 o.kind, .int .i64 o.op, .int .i64 0, .int .i64 0, .string ⟨#[]⟩, .string ⟨#[]⟩, .string ⟨#[]⟩, .int .i64 0, .int .i64 0, .slice none 0 0] 32) = W4 at *
      clear hW4
      go_wp2_with (first
        | (go_at_call 63; go_loud (with_reducible refine HBr.out.mono ?_); rintro e5 w5 ⟨c5, b5, rfl, f5⟩)
        | fail)
      exact ⟨rfl, fr_new (chg_below HB4.out) (by omega) c5, b5, rfl, f5⟩
    | ok y =>
      obtain ⟨es, l2⟩ := y
      simp only [] at HBr ⊢
      go_enter Tryz.func68, Tryz.ntmps68
      go_upto_region 2 with fail
      generalize hW4 : World.alloc _ (.cells #[.int .i64 o.kind, .int .i64 o.op, .int .i64 0, .int .i64 0, .string ⟨#[]⟩, .string ⟨#[]⟩, .string ⟨#[]⟩, .int .i64 0, .int .i64 0, .slice none 0 0] 32) = W4 at *
      clear hW4
      go_wp2_with (first
        | (go_at_call 63; go_loud (with_reducible refine HBr.out.mono ?_); rintro e5 w5 ⟨c5, v5, rfl, ⟨rfl, pe, ce, hbx, k5, E5⟩, r5⟩; have C5 := hid c5; have HE5 := hid E5; have HR5 := hid r5; obtain ⟨y0, y1, y2, y3, y4, y5, y6, y7, y8, y9⟩ := hbx.xc; simp only [Nat.zero_add] at y0 y1 y2 y3 y4 y5 y6 y7 y8 y9; have res5 := HRes.out.chg c5 (show ¬ (w.heap.size + 2 = rb ∨ w.heap.size + 2 = w.heap.size + 3) by omega); obtain ⟨z0, z1, z2, z3, z4, z5, z6, z7, z8, z9⟩ := res5.cells; have zf := res5.frozen; clear c5 E5 r5 hbx res5)
        | fail)
      refine bodyPost_ret (by simp [results, Tryz.results68, go_sem, z0, z1, z2, z3, z4, z5, z6, z7, z8, z9]; try rfl) rfl ?_
      exact finX (e := mkE o.kind o.op es) HH.out (fr_new (chg_below HB4.out) (by omega) C5.out) (by omega) HR5.out (HE5.out.mono (fun j _ q => ⟨by omega, by omega⟩))
end Go.Proofs.YtfhhigablibeoaaGreatDoor
namespace Go.Proofs.YtfhhigablibeoaaGreatDoor
open Go.RowKit Go.Lib Go.Sort
set_option linter.unusedVariables false
set_option maxRecDepth 20000

/-- A literal's value; none: zeroes. -/
def litO : Option Val → Value
  | some v => .agg #[.int .i64 v.k, .int .i64 v.n, .string v.s]
  | none => .agg #[.int .i64 0, .int .i64 0, .string ⟨#[]⟩]
/-- The literal that a word is. -/
def lit1 (k : Int) (s : List UInt8) (n : Int) : Option Val :=
  if k = 2 then some ⟨2, n, ⟨#[]⟩⟩
  else if k = 3 then some ⟨3, 0, ⟨s.toArray⟩⟩
  else if k = 4 then some ⟨4, 0, ⟨s.toArray⟩⟩
  else if k = 1 then
    if s == [110, 117, 108, 108] then some v0
    else if s == [116, 114, 117, 101] then some ⟨1, 1, ⟨#[]⟩⟩
    else if s == [102, 97, 108, 115, 101] then some ⟨1, 0, ⟨#[]⟩⟩
    else none
  else none
set_option maxHeartbeats 8000000 in
theorem literal1 (k : Int) (s : List UInt8) (i n : Int) (w : World) :
    Calls Tryz.prog 65 #[.agg #[.int .i64 k, .string ⟨s.toArray⟩, .int .i64 i, .int .i64 n]] w fun e w' => e = .returned (.tuple #[litO (lit1 k s n), .bool (lit1 k s n).isSome]) ∧ Below w.heap.size w w' := by
  obtain ⟨R, HR⟩ : ∃ R, Hid (lit1 k s n = R) := ⟨_, rfl⟩
  rw [HR.out]
  go_enter Tryz.func65, Tryz.ntmps65
  go_wp2
  all_goals (refine bodyPost_ret (by simp [results, Tryz.results65, go_sem]; try rfl) rfl ?_)
  all_goals (refine ⟨?_, by go_grown⟩)
  all_goals (rw [← HR.out]; simp_all [lit1, litO, v0])
theorem literal_tok (l : Ts) (w : World) :
    Calls Tryz.prog 65 #[tokV l 0] w fun e w' => e = .returned (.tuple #[litO (litT l), .bool (litT l).isSome]) ∧ Below w.heap.size w w' := by
  cases l with
  | nil => exact literal1 0 [] 0 0 w
  | cons x r => exact literal1 x.1.k x.1.s x.2 x.1.n w
end Go.Proofs.YtfhhigablibeoaaGreatDoor
namespace Go.Proofs.YtfhhigablibeoaaGreatDoor
open Go.RowKit Go.Lib Go.Sort
set_option linter.unusedVariables false
set_option maxRecDepth 20000

set_option maxHeartbeats 16000000 in
theorem item_paren {w : World} {rb : Nat} {p : Option Addr} {c : Nat} {xs l : Ts} {d : Nat} {prev : Option (Ts → Rd Ex)} (h : RS w rb p c xs l d) (hst : stn 5 [40] l = true) (hprev : ∀ g, prev = some g → ∃ d', d = d' + 1 ∧ LineOk rb p c xs d' 70 #[.pointer (some ⟨rb + 25, 0, none⟩), .pointer (some ⟨rb + 23, 0, none⟩), .pointer (some ⟨rb + 24, 0, none⟩)] g) (hnone : prev = none → d = 0) :
    Calls Tryz.prog 35 #[.pointer (some ⟨rb, 0, none⟩)] w (RdE (QX w.heap.size) rb p c xs d (brkP prev (fun g => g) l) w) := by
  have HH := hid h
  have hlt := h.lt
  have hl : l ≠ [] := by
    obtain ⟨x, r, e, _⟩ := stn_pos hst
    rw [e]; exact List.cons_ne_nil _ _
  obtain ⟨hs0, e1, e2⟩ := alc2 w (.cells #[.pointer (some ⟨rb, 0, none⟩)] 59) (.cells #[.int .i64 0, .int .i64 0, .int .i64 0, .int .i64 0, .string ⟨#[]⟩, .string ⟨#[]⟩, .string ⟨#[]⟩, .int .i64 0, .int .i64 0, .slice none 0 0] 32)
  have B0 : Below w.heap.size w ((w.alloc (.cells #[.pointer (some ⟨rb, 0, none⟩)] 59)).alloc (.cells #[.int .i64 0, .int .i64 0, .int .i64 0, .int .i64 0, .string ⟨#[]⟩, .string ⟨#[]⟩, .string ⟨#[]⟩, .int .i64 0, .int .i64 0, .slice none 0 0] 32)) := ((Below.refl _ _).alloc (Nat.le_refl _) _).alloc (by simp) _
  have H0 := hid (h.below B0)
  have HB0 := hid B0
  have HRes : Hid (ResX ((w.alloc (.cells #[.pointer (some ⟨rb, 0, none⟩)] 59)).alloc (.cells #[.int .i64 0, .int .i64 0, .int .i64 0, .int .i64 0, .string ⟨#[]⟩, .string ⟨#[]⟩, .string ⟨#[]⟩, .int .i64 0, .int .i64 0, .slice none 0 0] 32)) (w.heap.size + 1)) := e2
  have x0 : ((w.alloc (.cells #[.pointer (some ⟨rb, 0, none⟩)] 59)).alloc (.cells #[.int .i64 0, .int .i64 0, .int .i64 0, .int .i64 0, .string ⟨#[]⟩, .string ⟨#[]⟩, .string ⟨#[]⟩, .int .i64 0, .int .i64 0, .slice none 0 0] 32)).cell? ⟨w.heap.size, 0, none⟩ = some (.pointer (some ⟨rb, 0, none⟩)) := by rw [Lib.cell_of_heap e1]; rfl
  have HX0 := hid x0
  have HSt := hid (stands_any 5 [40] H0.out (by decide))
  rw [hst] at HSt
  clear e1 e2 B0 h hst
  cases hpv : prev with
  | none =>
    obtain rfl := hnone hpv
    show Calls _ _ _ _ (RdE _ _ _ _ _ _ (.error (l, 21)) _)
    clear hpv hnone hprev
    go_enter Tryz.func35, Tryz.ntmps35
    go_upto_region 1 with fail
    generalize hWW : World.alloc _ (.cells #[.int .i64 0, .int .i64 0, .int .i64 0, .int .i64 0, .string ⟨#[]⟩, .string ⟨#[]⟩, .string ⟨#[]⟩, .int .i64 0, .int .i64 0, .slice none 0 0] 32) = W at *
    clear hWW
    go_upto_region 3 with (first
      | (go_at_call 62; go_loud (with_reducible refine HSt.out.mono ?_); rintro e1 w1 ⟨rfl, b1⟩; have B1 := hid b1; have x1 := lxbelow_cell b1 HX0.out; clear b1)
      | fail)
    have hs1 := B1.out.size
    have A3 := albl w1 (.cells #[.int .i64 0, .int .i64 0, .int .i64 0, .int .i64 0, .string ⟨#[]⟩, .string ⟨#[]⟩, .string ⟨#[]⟩, .int .i64 0, .int .i64 0, .slice none 0 0] 32)
    have HX3 := hid (show BX (w1.alloc (.cells #[.int .i64 0, .int .i64 0, .int .i64 0, .int .i64 0, .string ⟨#[]⟩, .string ⟨#[]⟩, .string ⟨#[]⟩, .int .i64 0, .int .i64 0, .slice none 0 0] 32)) w1.heap.size ⟨0, 0, v0, [], [], []⟩ none 0 from heap_alloc_new w1 _)
    have HR3 := hid ((H0.out.below B1.out).below A3)
    have C3 := hid (chg_trans (chg_below (rb := rb) HB0.out) (chg_trans (chg_below B1.out) (chg_below A3)))
    have HRes3 := hid (HRes.out.chg (chg_trans (chg_below (rb := rb) B1.out) (chg_below A3)) (show ¬ (w.heap.size + 1 = rb) by omega))
    have x3 := lxbelow_cell A3 x1
    have HXr := hid x3
    have hs3 : (w1.alloc (.cells #[.int .i64 0, .int .i64 0, .int .i64 0, .int .i64 0, .string ⟨#[]⟩, .string ⟨#[]⟩, .string ⟨#[]⟩, .int .i64 0, .int .i64 0, .slice none 0 0] 32)).heap.size = w1.heap.size + 1 := by simp
    clear A3 x1
    generalize hW3 : World.alloc w1 _ = W3 at *
    clear hW3
    have HBr := hid (fun v => brackets_no v HR3.out)
    go_wp2_with (first
      | (go_at_call 63; go_loud (with_reducible refine (HBr.out _).mono ?_); rintro e5 w5 ⟨b5, bb, rfl, f5⟩)
      | fail)
    exact ⟨rfl, chg_trans C3.out (chg_below b5), bb, rfl, f5⟩
  | some g =>
    obtain ⟨d', rfl, hG⟩ := hprev g hpv
    rw [brkP_some]
    clear hpv hnone hprev
    obtain ⟨R, HRr⟩ : ∃ R, Hid (brkE (g l.tail) = R) := ⟨_, rfl⟩
    show Calls _ _ _ _ (RdE _ _ _ _ _ _ (brkE (g l.tail)) _)
    rw [HRr.out]
    cases R with
    | error x =>
      go_enter Tryz.func35, Tryz.ntmps35
      go_upto_region 1 with fail
      generalize hWW : World.alloc _ (.cells #[.int .i64 0, .int .i64 0, .int .i64 0, .int .i64 0, .string ⟨#[]⟩, .string ⟨#[]⟩, .string ⟨#[]⟩, .int .i64 0, .int .i64 0, .slice none 0 0] 32) = W at *
      clear hWW
      go_upto_region 3 with (first
        | (go_at_call 62; go_loud (with_reducible refine HSt.out.mono ?_); rintro e1 w1 ⟨rfl, b1⟩; have B1 := hid b1; have x1 := lxbelow_cell b1 HX0.out; clear b1)
        | fail)
      have hs1 := B1.out.size
      have A3 := albl w1 (.cells #[.int .i64 0, .int .i64 0, .int .i64 0, .int .i64 0, .string ⟨#[]⟩, .string ⟨#[]⟩, .string ⟨#[]⟩, .int .i64 0, .int .i64 0, .slice none 0 0] 32)
      have HX3 := hid (show BX (w1.alloc (.cells #[.int .i64 0, .int .i64 0, .int .i64 0, .int .i64 0, .string ⟨#[]⟩, .string ⟨#[]⟩, .string ⟨#[]⟩, .int .i64 0, .int .i64 0, .slice none 0 0] 32)) w1.heap.size ⟨0, 0, v0, [], [], []⟩ none 0 from heap_alloc_new w1 _)
      have HR3 := hid ((H0.out.below B1.out).below A3)
      have C3 := hid (chg_trans (chg_below (rb := rb) HB0.out) (chg_trans (chg_below B1.out) (chg_below A3)))
      have HRes3 := hid (HRes.out.chg (chg_trans (chg_below (rb := rb) B1.out) (chg_below A3)) (show ¬ (w.heap.size + 1 = rb) by omega))
      have x3 := lxbelow_cell A3 x1
      have HXr := hid x3
      have hs3 : (w1.alloc (.cells #[.int .i64 0, .int .i64 0, .int .i64 0, .int .i64 0, .string ⟨#[]⟩, .string ⟨#[]⟩, .string ⟨#[]⟩, .int .i64 0, .int .i64 0, .slice none 0 0] 32)).heap.size = w1.heap.size + 1 := by simp
      clear A3 x1
      generalize hW3 : World.alloc w1 _ = W3 at *
      clear hW3
      have HBr := hid (brackets_yes (eb := w1.heap.size) (cs := #[.pointer (some ⟨w.heap.size, 0, none⟩), .pointer (some ⟨w1.heap.size, 0, none⟩)]) (g l.tail) (fun w' a => QB w1.heap.size W3.heap.size w' a) HR3.out hl Tryz.call64
        (fun w' C r => item1_any r HH.out (by omega) (C.cell HXr.out (show ¬ (w.heap.size = rb) by omega)) (HX3.out.chg C (show ¬ (w1.heap.size = rb) by omega)) C.size hG)
        (fun a w1 w2 C q => q.chg C (by omega) (by omega)))
      rw [HRr.out] at HBr
      unfold RdG QB at HBr
      simp only [] at HBr
      go_wp2_with (first
        | (go_at_call 63; go_loud (with_reducible refine HBr.out.mono ?_); rintro e5 w5 ⟨c5, b5, rfl, f5⟩)
        | fail)
      exact ⟨rfl, fr_new C3.out (by omega) c5, b5, rfl, f5⟩
    | ok y =>
      obtain ⟨e, l2⟩ := y
      go_enter Tryz.func35, Tryz.ntmps35
      go_upto_region 1 with fail
      generalize hWW : World.alloc _ (.cells #[.int .i64 0, .int .i64 0, .int .i64 0, .int .i64 0, .string ⟨#[]⟩, .string ⟨#[]⟩, .string ⟨#[]⟩, .int .i64 0, .int .i64 0, .slice none 0 0] 32) = W at *
      clear hWW
      go_upto_region 3 with (first
        | (go_at_call 62; go_loud (with_reducible refine HSt.out.mono ?_); rintro e1 w1 ⟨rfl, b1⟩; have B1 := hid b1; have x1 := lxbelow_cell b1 HX0.out; clear b1)
        | fail)
      have hs1 := B1.out.size
      have A3 := albl w1 (.cells #[.int .i64 0, .int .i64 0, .int .i64 0, .int .i64 0, .string ⟨#[]⟩, .string ⟨#[]⟩, .string ⟨#[]⟩, .int .i64 0, .int .i64 0, .slice none 0 0] 32)
      have HX3 := hid (show BX (w1.alloc (.cells #[.int .i64 0, .int .i64 0, .int .i64 0, .int .i64 0, .string ⟨#[]⟩, .string ⟨#[]⟩, .string ⟨#[]⟩, .int .i64 0, .int .i64 0, .slice none 0 0] 32)) w1.heap.size ⟨0, 0, v0, [], [], []⟩ none 0 from heap_alloc_new w1 _)
      have HR3 := hid ((H0.out.below B1.out).below A3)
      have C3 := hid (chg_trans (chg_below (rb := rb) HB0.out) (chg_trans (chg_below B1.out) (chg_below A3)))
      have HRes3 := hid (HRes.out.chg (chg_trans (chg_below (rb := rb) B1.out) (chg_below A3)) (show ¬ (w.heap.size + 1 = rb) by omega))
      have x3 := lxbelow_cell A3 x1
      have HXr := hid x3
      have hs3 : (w1.alloc (.cells #[.int .i64 0, .int .i64 0, .int .i64 0, .int .i64 0, .string ⟨#[]⟩, .string ⟨#[]⟩, .string ⟨#[]⟩, .int .i64 0, .int .i64 0, .slice none 0 0] 32)).heap.size = w1.heap.size + 1 := by simp
      clear A3 x1
      generalize hW3 : World.alloc w1 _ = W3 at *
      clear hW3
      have HBr := hid (brackets_yes (eb := w1.heap.size) (cs := #[.pointer (some ⟨w.heap.size, 0, none⟩), .pointer (some ⟨w1.heap.size, 0, none⟩)]) (g l.tail) (fun w' a => QB w1.heap.size W3.heap.size w' a) HR3.out hl Tryz.call64
        (fun w' C r => item1_any r HH.out (by omega) (C.cell HXr.out (show ¬ (w.heap.size = rb) by omega)) (HX3.out.chg C (show ¬ (w1.heap.size = rb) by omega)) C.size hG)
        (fun a w1 w2 C q => q.chg C (by omega) (by omega)))
      rw [HRr.out] at HBr
      unfold RdG QB at HBr
      simp only [] at HBr
      go_wp2_with (first
        | (go_at_call 63; go_loud (with_reducible refine HBr.out.mono ?_); rintro e5 w5 ⟨c5, v5, rfl, ⟨rfl, pe, ce, hbx, k5, E5⟩, r5⟩; have C5 := hid c5; have HE5 := hid E5; have HR5 := hid r5; obtain ⟨y0, y1, y2, y3, y4, y5, y6, y7, y8, y9⟩ := hbx.xc; simp only [Nat.zero_add] at y0 y1 y2 y3 y4 y5 y6 y7 y8 y9; have res5 := HRes3.out.chg c5 (show ¬ (w.heap.size + 1 = rb ∨ w.heap.size + 1 = w1.heap.size) by omega); obtain ⟨z0, z1, z2, z3, z4, z5, z6, z7, z8, z9⟩ := res5.cells; have zf := res5.frozen; clear c5 E5 r5 hbx res5)
        | fail)
      refine bodyPost_ret (by simp [results, Tryz.results35, go_sem, z0, z1, z2, z3, z4, z5, z6, z7, z8, z9]; try rfl) rfl ?_
      exact finX (e := e) HH.out (fr_new C3.out (by omega) C5.out) (by omega) HR5.out (HE5.out.mono (fun j _ q => ⟨by omega, by omega⟩))
end Go.Proofs.YtfhhigablibeoaaGreatDoor
