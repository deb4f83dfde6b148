/- The law ExprBack returns true and writes nothing that was there. Conditions: the library's variables hold what their text lays. -/
import Derived.Test.YtekapdpfbkdflaaGreatDoorXT
import Derived.Test.YtekapdpfbkdflaaGreatDoorExLeftW
namespace Go.Proofs.YtekapdpfbkdflaaGreatDoor
open Go.RowKit Go.Lib Go.Sort
set_option linter.unusedVariables false
set_option maxRecDepth 20000

theorem tkg_of {l : List UInt8} {xs : Ts} (h : lexR l = .ok xs) : TkG xs := by
  obtain ⟨hl, ht⟩ := lexR_ok h
  have h4 := toks_good _ _ _ _ ht
  have hx := lxd_of h
  exact fun x hx' => ⟨h4 x hx', hx.txt x hx'⟩
set_option maxHeartbeats 8000000 in
/-- A text that is none, or too long, or no expression. -/
theorem back_no (s : ByteArray) (w : World) (hE : Env w) (hs : s.size ≤ 140737488351232) (hno : (∃ i n, lexR s.data.toList = .error (i, n)) ∨ (∃ T, lexR s.data.toList = .ok T ∧ ¬ (T.length : Int) ≤ 2000) ∨ ∃ T r n, lexR s.data.toList = .ok T ∧ (T.length : Int) ≤ 2000 ∧ (lns 32).orr T = .error (r, n)) :
    Calls Tryz.prog 3 #[.string s] w fun e w' => e = .returned (.bool true) ∧ Below w.heap.size w w' := by
  have HE := hid hE
  have CW := hid (works_any w hE)
  rcases hno with ⟨i, n, hl⟩ | ⟨T, hl, hbig⟩ | ⟨T, r, n, hl, hsm, hr⟩
  · have CT := hid (fun w (h : Env w) => xtok_err s i n w hs h.ry hl)
    clear hE hl hs
    go_enter Tryz.func3, Tryz.ntmps3
    go_upto_region 3 with (go_at_call 7; with_reducible refine CW.out.mono ?_; rintro e w1 ⟨rfl, b1⟩; have B1 := hid b1; clear b1)
    have G1 := hid (CT.out w1 (HE.out.below B1.out))
    go_wp2_with (first
      | (go_at_call 8; with_reducible refine G1.out.mono ?_; rintro e w2 ⟨b, rfl, x0, x1, b2⟩; have B2 := hid (B1.out.trans (b2.mono B1.out.size)); clear b2 x0 x1)
      | fail)
    go_ret
    exact ⟨rfl, B2.out⟩
  · have CT := hid (fun w (h : Env w) => xtok_ok s T w hs h.ry hl)
    clear hE hl hs
    generalize T.length = nT at *
    go_enter Tryz.func3, Tryz.ntmps3
    go_upto_region 3 with (go_at_call 7; with_reducible refine CW.out.mono ?_; rintro e w1 ⟨rfl, b1⟩; have B1 := hid b1; clear b1)
    have G1 := hid (CT.out w1 (HE.out.below B1.out))
    go_wp2_with (first
      | (go_at_call 8; with_reducible refine G1.out.mono ?_; rintro e w2 ⟨p, c, rfl, t2, m2, b2⟩; have B2 := hid (B1.out.trans (b2.mono B1.out.size)); clear b2 t2 m2)
      | fail)
    go_ret
    exact ⟨rfl, B2.out⟩
  · have CT := hid (fun w (h : Env w) => xtok_ok s T w hs h.ry hl)
    have CR := hid (fun w p c (h : Env w) (t : TR w p T) => read0_err (c := c) w t h.gl (lxd_of hl) hr)
    clear hE hl hs hr
    generalize plc T r = np at *
    generalize T.length = nT at *
    go_enter Tryz.func3, Tryz.ntmps3
    go_upto_region 3 with (go_at_call 7; with_reducible refine CW.out.mono ?_; rintro e w1 ⟨rfl, b1⟩; have B1 := hid b1; clear b1)
    have G1 := hid (CT.out w1 (HE.out.below B1.out))
    go_wp2_with (first
      | (go_at_call 8; with_reducible refine G1.out.mono ?_; rintro e w2 ⟨p, c, rfl, t2, m2, b2⟩; have B2 := hid (B1.out.trans (b2.mono B1.out.size)); have G2 := hid (CR.out w2 p c (HE.out.below B2.out) t2); clear b2 t2 m2)
      | (go_at_call 9; with_reducible refine G2.out.mono ?_; rintro e w3 ⟨fb, rfl, f3, b3⟩; have B3 := hid (B2.out.trans (b3.mono B2.out.size)); clear f3 b3)
      | fail)
    go_ret
    exact ⟨rfl, B3.out.trans ((albl w3 _).mono B3.out.size)⟩
set_option maxHeartbeats 16000000 in
/-- An expression. -/
theorem back_yes (s : ByteArray) (T r : Ts) (e : Ex) (w : World) (hE : Env w) (hs : s.size ≤ 140737488351232) (hl : lexR s.data.toList = .ok T) (hsm : (T.length : Int) ≤ 2000) (hr : (lns 32).orr T = .ok (e, r)) :
    Calls Tryz.prog 3 #[.string s] w fun e w' => e = .returned (.bool true) ∧ Below w.heap.size w w' := by
  have HE := hid hE
  have CW := hid (works_any w hE)
  have hx := lxd_of hl
  have HO := hid ((gd_lns 32).2.2 T e r hx.tk hr)
  have hlen : (prE e).length ≤ 655360000 := by
    have h1 := (wt_lns 32).2.2 T e r (fun x hx' => ⟨hx.txt x hx', (hx.tk x hx').2⟩) hr
    have := hx.len
    omega
  obtain ⟨T2, ht2, hr2⟩ := back_all (tkg_of hl) hr
  have CT := hid (fun w (h : Env w) => xtok_ok s T w hs h.ry hl)
  have CR := hid (fun w p c (h : Env w) (t : TR w p T) => read0_ok (c := c) w t h.gl (lxd_of hl) hr _ rfl)
  have CP := hid (fun w pe ce (h : Env w) k (q : EAt w (fun _ => True) k e pe) => print_any k e pe ce (HO.out k) q h.gl h.rd (by omega))
  obtain ⟨U, hU⟩ : ∃ U : ByteArray, U = ⟨(prE e).toArray⟩ := ⟨_, rfl⟩
  have hUs : U.size = (prE e).length := by rw [hU]; rfl
  have hUd : U.data.toList = prE e := by rw [hU]
  rw [← hU] at CP
  by_cases hb : (U.size : Int) ≤ 16384
  · have hl2 : lexR U.data.toList = .ok T2 := by
      rw [hUd]
      exact lexR_of (by omega) ht2
    have KT := hid (fun w (h : Env w) => tok_ok U T2 w (by omega) h.ry hl2)
    have KR := hid (fun w p c (h : Env w) (t : TR w p T2) => read0_ok (c := c) w t h.gl (lxd_of hl2) hr2 (T2.length : Int) (by simp))
    clear hE hl hs hr hU hUs hUd hl2 ht2 hr2 hlen hx
    generalize (T.length : Int) - (r.length : Int) = nR at *
    generalize T.length = nT at *
    generalize T2.length = n2 at *
    go_enter Tryz.func3, Tryz.ntmps3
    go_upto_region 3 with (go_at_call 7; with_reducible refine CW.out.mono ?_; rintro e w1 ⟨rfl, b1⟩; have B1 := hid b1; clear b1)
    have G1 := hid (CT.out w1 (HE.out.below B1.out))
    go_upto_region 7 with (first
      | (go_at_call 8; with_reducible refine G1.out.mono ?_; rintro e w2 ⟨p, c, rfl, t2, m2, b2⟩; have B2 := hid (B1.out.trans (b2.mono B1.out.size)); have G2 := hid (CR.out w2 p c (HE.out.below B2.out) t2); clear b2 t2 m2)
      | (go_at_call 9; with_reducible refine G2.out.mono ?_; rintro e w3 ⟨pa, ca, rfl, q3, b3⟩; have B3 := hid (B2.out.trans (b3.mono B2.out.size)); have Q3 := hid q3; clear q3 b3)
      | fail)
    have BA := albl w3 (.cells #[.int .i64 e.k, .int .i64 e.op, .int .i64 e.v.k, .int .i64 e.v.n, .string e.v.s, .string ⟨e.t.toArray⟩, .string ⟨e.n.toArray⟩, .int .i64 0, .int .i64 0, .slice pa e.xs.length ca] 32)
    have B4 := hid (B3.out.trans (BA.mono B3.out.size))
    have VA := hid (VX.new ca Q3.out)
    clear BA Q3 G1 G2
    generalize hW4 : World.alloc w3 _ = W4 at *
    clear hW4
    generalize w3.heap.size = ba at *
    obtain ⟨x0, x1, x2, x3, x4, x5, x6, x7, x8, x9⟩ := VA.out.1.cells
    obtain ⟨k4, q4⟩ := VA.out.2
    have G3 := hid (CP.out W4 pa ca (HE.out.below B4.out) k4 q4)
    clear q4
    go_upto_region 14 with (first
      | (go_at_call 10; go_loud (with_reducible refine G3.out.mono ?_); rintro e5 w5 ⟨rfl, b5⟩; have B5 := hid (B4.out.trans (b5.mono B4.out.size)); have VA5 := hid (VA.out.below b5); have G4 := hid (KT.out w5 (HE.out.below B5.out)); clear b5 x0 x1 x2 x3 x4 x5 x6 x7 x8 x9)
      | (go_at_call 11; with_reducible refine G4.out.mono ?_; rintro e6 w6 ⟨p6, c6, rfl, t6, b6⟩; have B6 := hid (B5.out.trans (b6.mono B5.out.size)); have VA6 := hid (VA5.out.below b6); have G5 := hid (KR.out w6 p6 c6 (HE.out.below B6.out) t6); clear b6 t6)
      | (go_at_call 9; with_reducible refine G5.out.mono ?_; rintro e7 w7 ⟨pb, cb, rfl, q7, b7⟩; have B7 := hid (B6.out.trans (b7.mono B6.out.size)); have VA7 := hid (VA6.out.below b7); have Q7 := hid q7; clear q7 b7)
      | fail)
    have BA := albl w7 (.cells #[.int .i64 e.k, .int .i64 e.op, .int .i64 e.v.k, .int .i64 e.v.n, .string e.v.s, .string ⟨e.t.toArray⟩, .string ⟨e.n.toArray⟩, .int .i64 0, .int .i64 0, .slice pb e.xs.length cb] 32)
    have B8 := hid (B7.out.trans (BA.mono B7.out.size))
    have VA8 := hid (VA7.out.below BA)
    have VB8 := hid (VX.new cb Q7.out)
    clear BA Q7 G3 G4 G5
    generalize hW8 : World.alloc w7 _ = W8 at *
    clear hW8
    generalize w7.heap.size = bb at *
    obtain ⟨x0, x1, x2, x3, x4, x5, x6, x7, x8, x9⟩ := VA8.out.1.cells
    obtain ⟨y0, y1, y2, y3, y4, y5, y6, y7, y8, y9⟩ := VB8.out.1.cells
    have G6 := hid (same_is W8 e e pa pb ca cb true (by simp) HO.out VA8.out.2 VB8.out.2)
    go_wp2_with (first
      | (go_at_call 12; go_loud (with_reducible refine G6.out.mono ?_); rintro e9 w9 ⟨rfl, b9⟩; have B9 := hid (B8.out.trans (b9.mono B8.out.size)); have VB9 := hid (VB8.out.below b9); clear b9 x0 x1 x2 x3 x4 x5 x6 x7 x8 x9 y0 y1 y2 y3 y4 y5 y6 y7 y8 y9; obtain ⟨y0, y1, y2, y3, y4, y5, y6, y7, y8, y9⟩ := VB9.out.1.cells; obtain ⟨k9, q9⟩ := VB9.out.2; have G7 := hid (CP.out w9 pb cb (HE.out.below B9.out) k9 q9); clear q9)
      | (go_at_call 10; go_loud (with_reducible refine G7.out.mono ?_); rintro e10 w10 ⟨rfl, b10⟩; have B10 := hid (B9.out.trans (b10.mono B9.out.size)); clear b10)
      | fail)
    go_ret
    exact ⟨rfl, B10.out⟩
  · clear hE hl hs hr hU hUs hUd ht2 hr2 hlen hx
    generalize (T.length : Int) - (r.length : Int) = nR at *
    generalize T.length = nT at *
    go_enter Tryz.func3, Tryz.ntmps3
    go_upto_region 3 with (go_at_call 7; with_reducible refine CW.out.mono ?_; rintro e w1 ⟨rfl, b1⟩; have B1 := hid b1; clear b1)
    have G1 := hid (CT.out w1 (HE.out.below B1.out))
    go_upto_region 7 with (first
      | (go_at_call 8; with_reducible refine G1.out.mono ?_; rintro e w2 ⟨p, c, rfl, t2, m2, b2⟩; have B2 := hid (B1.out.trans (b2.mono B1.out.size)); have G2 := hid (CR.out w2 p c (HE.out.below B2.out) t2); clear b2 t2 m2)
      | (go_at_call 9; with_reducible refine G2.out.mono ?_; rintro e w3 ⟨pa, ca, rfl, q3, b3⟩; have B3 := hid (B2.out.trans (b3.mono B2.out.size)); have Q3 := hid q3; clear q3 b3)
      | fail)
    have BA := albl w3 (.cells #[.int .i64 e.k, .int .i64 e.op, .int .i64 e.v.k, .int .i64 e.v.n, .string e.v.s, .string ⟨e.t.toArray⟩, .string ⟨e.n.toArray⟩, .int .i64 0, .int .i64 0, .slice pa e.xs.length ca] 32)
    have B4 := hid (B3.out.trans (BA.mono B3.out.size))
    have VA := hid (VX.new ca Q3.out)
    clear BA Q3 G1 G2
    generalize hW4 : World.alloc w3 _ = W4 at *
    clear hW4
    generalize w3.heap.size = ba at *
    obtain ⟨x0, x1, x2, x3, x4, x5, x6, x7, x8, x9⟩ := VA.out.1.cells
    obtain ⟨k4, q4⟩ := VA.out.2
    have G3 := hid (CP.out W4 pa ca (HE.out.below B4.out) k4 q4)
    clear q4
    go_wp2_with (first
      | (go_at_call 10; go_loud (with_reducible refine G3.out.mono ?_); rintro e5 w5 ⟨rfl, b5⟩; have B5 := hid (B4.out.trans (b5.mono B4.out.size)); clear b5)
      | fail)
    go_ret
    exact ⟨rfl, B5.out⟩
/-- Whatever the text. -/
theorem back_any (s : ByteArray) (w : World) (hE : Env w) (hs : s.size ≤ 140737488351232) :
    Calls Tryz.prog 3 #[.string s] w fun e w' => e = .returned (.bool true) ∧ Below w.heap.size w w' := by
  cases hl : lexR s.data.toList with
  | error z => exact back_no s w hE hs (Or.inl ⟨z.1, z.2, hl⟩)
  | ok T =>
    by_cases h2 : (T.length : Int) ≤ 2000
    · cases hr : (lns 32).orr T with
      | error z => exact back_no s w hE hs (Or.inr (Or.inr ⟨T, z.1, z.2, hl, h2, hr⟩))
      | ok z => exact back_yes s T z.2 z.1 w hE hs hl h2 hr
    · exact back_no s w hE hs (Or.inr (Or.inl ⟨T, hl, h2⟩))
end Go.Proofs.YtekapdpfbkdflaaGreatDoor
