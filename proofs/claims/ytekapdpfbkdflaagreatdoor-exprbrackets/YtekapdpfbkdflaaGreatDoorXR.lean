/- ExprBrackets at a text of which a part is an expression, or that is too long. No conditions. ExprBrackets at an expression that is not too long: in brackets it is the same, or too deep. No conditions. -/
import Derived.Test.YtekapdpfbkdflaaGreatDoorExBrkE
import Derived.Test.YtekapdpfbkdflaaGreatDoorExLeftW
namespace Go.Proofs.YtekapdpfbkdflaaGreatDoor
open Go.RowKit Go.Lib Go.Sort
set_option linter.unusedVariables false
set_option maxRecDepth 20000

set_option maxHeartbeats 8000000 in
theorem bkt_part (s : ByteArray) (T r : Ts) (e : Ex) (N : Int) (w : World) (hE : Env w) (hs : s.size ≤ 140737488351232) (hl : lexR s.data.toList = .ok T) (hr : (lns 32).orr T = .ok (e, r)) (hN : N = (T.length : Int) - (r.length : Int)) (hc : ¬ N = (T.length : Int) ∨ N = (T.length : Int) ∧ ¬ (s.size : Int) ≤ 4000) :
    Calls Tryz.prog 5 #[.string s] w fun e w' => e = .returned (.bool true) ∧ Below w.heap.size w w' := by
  have HE := hid hE
  have CW := hid (works_any w hE)
  have CT := hid (fun w (h : Env w) => tok_ok s T w hs h.ry hl)
  have CR := hid (fun w p c (h : Env w) (t : TR w p T) => read0_ok (c := c) w t h.gl (lxd_of hl) hr N hN)
  clear hE hl hs hr hN
  generalize T.length = n at *
  go_enter Tryz.func5, Tryz.ntmps5
  go_upto_region 3 with (go_at_call 7; with_reducible refine CW.out.mono ?_; rintro e w1 ⟨rfl, b1⟩; have B1 := hid b1; clear b1)
  have G1 := hid (CT.out w1 (HE.out.below B1.out))
  go_upto_region 4 with (first
    | (go_at_call 11; with_reducible refine G1.out.mono ?_; rintro e w2 ⟨p2, c2, rfl, t2, b2⟩; have B2 := hid (B1.out.trans (b2.mono B1.out.size)); have G2 := hid (CR.out w2 p2 c2 (HE.out.below B2.out) t2); clear b2 t2)
    | (go_at_call 9; with_reducible refine G2.out.mono ?_; rintro e w3 ⟨pe, ce, rfl, q3, b3⟩; have B3 := hid (B2.out.trans (b3.mono B2.out.size)); clear q3 b3)
    | fail)
  have B4 := hid (B3.out.trans ((albl w3 (.cells #[.int .i64 e.k, .int .i64 e.op, .int .i64 e.v.k, .int .i64 e.v.n, .string e.v.s, .string ⟨e.t.toArray⟩, .string ⟨e.n.toArray⟩, .int .i64 0, .int .i64 0, .slice pe e.xs.length ce] 32)).mono B3.out.size))
  generalize hW4 : World.alloc w3 _ = W4 at *
  clear hW4
  have G3 := hid (CT.out W4 (HE.out.below B4.out))
  rcases hc with hc | ⟨hc, hd⟩
  · go_wp2_with (first
      | (go_at_call 11; with_reducible refine G3.out.mono ?_; rintro e5 w5 ⟨p5, c5, rfl, t5, b5⟩; have B5 := hid (B4.out.trans (b5.mono B4.out.size)); clear b5 t5)
      | fail)
    go_ret
    exact ⟨rfl, B5.out⟩
  · go_wp2_with (first
      | (go_at_call 11; with_reducible refine G3.out.mono ?_; rintro e5 w5 ⟨p5, c5, rfl, t5, b5⟩; have B5 := hid (B4.out.trans (b5.mono B4.out.size)); clear b5 t5)
      | fail)
    go_ret
    exact ⟨rfl, B5.out⟩
end Go.Proofs.YtekapdpfbkdflaaGreatDoor
namespace Go.Proofs.YtekapdpfbkdflaaGreatDoor
open Go.RowKit Go.Lib Go.Sort
set_option linter.unusedVariables false
set_option maxRecDepth 20000

/-- Read of words that are an expression, or are nested too deep: whatever it answers. -/
theorem readX {p : Option Addr} {c : Nat} {xs : Ts} {e : Ex} (w : World) (ht : TR w p xs) (hg : Gl w) (hx : Lxd xs) (h : (lns 32).orr xs = .ok (e, []) ∨ ∃ x, (lns 32).orr xs = .error (x, 21)) :
    Calls Tryz.prog 9 #[.slice p xs.length c, .int .i64 0] w fun ev w' => (∃ v0 v1 v2 v3 v4 v5 v6 v7 v8 v9 N X, ev = .returned (.tuple #[.agg #[.int .i64 v0, .int .i64 v1, .int .i64 v2, .int .i64 v3, .string v4, .string v5, .string v6, .int .i64 0, .int .i64 0, .slice v7 v8 v9], .int .i64 N, X])) ∧ Below w.heap.size w w' := by
  rcases h with h | ⟨x, h⟩
  · refine (read0_ok (c := c) w ht hg hx h _ rfl).mono ?_
    rintro ev w' ⟨pe, ce, rfl, _, hb⟩
    exact ⟨⟨_, _, _, _, _, _, _, _, _, _, _, _, rfl⟩, hb⟩
  · refine (read0_err (c := c) w ht hg hx h).mono ?_
    rintro ev w' ⟨b, rfl, _, hb⟩
    exact ⟨⟨_, _, _, _, _, _, _, _, _, _, _, _, rfl⟩, hb⟩
/-- An expression that was read, and what is known of it. -/
structure Bk (s : ByteArray) (T T2 T3 : Ts) (e : Ex) : Prop where
  l1 : lexR s.data.toList = .ok T
  l2 : lexR (⟨#[40]⟩ ++ s ++ ⟨#[10, 41]⟩ : ByteArray).data.toList = .ok T2
  l3 : lexR (⟨#[40, 40]⟩ ++ s ++ ⟨#[10, 41, 41]⟩ : ByteArray).data.toList = .ok T3
  r1 : (lns 32).orr T = .ok (e, [])
  ok : OkA e
  sm : (prE e).length ≤ 655360000
theorem sh_of {xs : Ts} (h : Lxd xs) : Sh xs := fun x hx => ⟨h.txt x hx, (h.tk x hx).2⟩
theorem bk_of {s : ByteArray} {T : Ts} {e : Ex} (hs : s.size ≤ 4000) (hl : lexR s.data.toList = .ok T) (hr : (lns 32).orr T = .ok (e, [])) : ∃ T2 T3, Bk s T T2 T3 e ∧ ((lns 32).orr T2 = .ok (e, []) ∨ ∃ x, (lns 32).orr T2 = .error (x, 21)) ∧ ((lns 32).orr T3 = .ok (e, []) ∨ ∃ x, (lns 32).orr T3 = .error (x, 21)) := by
  have hs' : s.data.toList.length ≤ 4000 := by simpa using hs
  obtain ⟨i, j, h2⟩ := lex_one hl hs'
  obtain ⟨i1, i2, j1, j2, h3⟩ := lex_two hl hs'
  have hx := lxd_of hl
  have hw := (wt_lns 32).2.2 T e [] (sh_of hx) hr
  have hlen := hx.len
  simp only [List.length_nil] at hw
  exact ⟨_, _, ⟨hl, by simpa using h2, by simpa using h3, hr, (gd_lns 32).2.2 T e [] hx.tk hr, by omega⟩, one_pair hr i j, two_pairs hr i1 i2 j1 j2⟩
set_option maxHeartbeats 16000000 in
/-- One pair of brackets is too much. -/
theorem bkt_e2 (s : ByteArray) (T T2 T3 : Ts) (e : Ex) (w : World) (hE : Env w) (hs : (s.size : Int) ≤ 4000) (hk : Bk s T T2 T3 e) (x2 : Ts) (h2 : (lns 32).orr T2 = .error (x2, 21)) (h3 : (lns 32).orr T3 = .ok (e, []) ∨ ∃ x, (lns 32).orr T3 = .error (x, 21)) :
    Calls Tryz.prog 5 #[.string s] w fun e w' => e = .returned (.bool true) ∧ Below w.heap.size w w' := by
  have HE := hid hE
  have CW := hid (works_any w hE)
  have HK := hid hk
  have K1 := hid (fun w (h : Env w) => tok_ok s T w (by omega) h.ry hk.l1)
  have K2 := hid (fun w (h : Env w) => tok_ok (⟨#[40]⟩ ++ s ++ ⟨#[10, 41]⟩) T2 w (by simp only [ByteArray.size_append]; show 1 + s.size + 2 ≤ _; omega) h.ry hk.l2)
  have K3 := hid (fun w (h : Env w) => tok_ok (⟨#[40, 40]⟩ ++ s ++ ⟨#[10, 41, 41]⟩) T3 w (by simp only [ByteArray.size_append]; show 2 + s.size + 3 ≤ _; omega) h.ry hk.l3)
  have R1 := hid (fun w p c (h : Env w) (t : TR w p T) => read0_ok (c := c) w t h.gl (lxd_of hk.l1) hk.r1 (T.length : Int) (by simp))
  have R2 := hid (fun w p c (h : Env w) (t : TR w p T2) => read0_err (c := c) w t h.gl (lxd_of hk.l2) h2)
  have R3 := hid (fun w p c (h : Env w) (t : TR w p T3) => readX (c := c) w t h.gl (lxd_of hk.l3) h3)
  have zo : (⟨#[40]⟩ : ByteArray).size = 1 := rfl
  have zp : (⟨#[40, 40]⟩ : ByteArray).size = 2 := rfl
  have zc : (⟨#[10, 41]⟩ : ByteArray).size = 2 := rfl
  have zd : (⟨#[10, 41, 41]⟩ : ByteArray).size = 3 := rfl
  clear hE hk h2 h3
  generalize T.length = n1 at *
  generalize T2.length = n2 at *
  generalize T3.length = n3 at *
  go_enter Tryz.func5, Tryz.ntmps5
  go_upto_region 3 with (go_at_call 7; with_reducible refine CW.out.mono ?_; rintro e w1 ⟨rfl, b1⟩; have B1 := hid b1; clear b1)
  have G1 := hid (K1.out w1 (HE.out.below B1.out))
  go_upto_region 4 with (first
    | (go_at_call 11; with_reducible refine G1.out.mono ?_; rintro e w2 ⟨p2, c2, rfl, t2, b2⟩; have B2 := hid (B1.out.trans (b2.mono B1.out.size)); have G2 := hid (R1.out w2 p2 c2 (HE.out.below B2.out) t2); clear b2 t2)
    | (go_at_call 9; with_reducible refine G2.out.mono ?_; rintro e w3 ⟨pa, ca, rfl, q3, b3⟩; have B3 := hid (B2.out.trans (b3.mono B2.out.size)); have Q3 := hid q3; clear q3 b3)
    | fail)
  have BA := albl w3 (.cells #[.int .i64 e.k, .int .i64 e.op, .int .i64 e.v.k, .int .i64 e.v.n, .string e.v.s, .string ⟨e.t.toArray⟩, .string ⟨e.n.toArray⟩, .int .i64 0, .int .i64 0, .slice pa e.xs.length ca] 32)
  have B4 := hid (B3.out.trans (BA.mono B3.out.size))
  have VA := hid (VX.new ca Q3.out)
  clear BA Q3 G1 G2
  generalize hW4 : World.alloc w3 _ = W4 at *
  clear hW4
  generalize w3.heap.size = ba at *
  have G3 := hid (K1.out W4 (HE.out.below B4.out))
  go_upto_region 6 with (first
    | (go_at_call 11; with_reducible refine G3.out.mono ?_; rintro e5 w5 ⟨p5, c5, rfl, t5, b5⟩; have B5 := hid (B4.out.trans (b5.mono B4.out.size)); have VA5 := hid (VA.out.below b5); clear b5 t5)
    | fail)
  have G4 := hid (K2.out w5 (HE.out.below B5.out))
  go_upto_region 7 with (first
    | (go_at_call 11; with_reducible refine G4.out.mono ?_; rintro e6 w6 ⟨p6, c6, rfl, t6, b6⟩; have B6 := hid (B5.out.trans (b6.mono B5.out.size)); have G5 := hid (R2.out w6 p6 c6 (HE.out.below B6.out) t6); clear b6 t6)
    | (go_at_call 9; with_reducible refine G5.out.mono ?_; rintro e7 w7 ⟨fb, rfl, f7, b7⟩; have B7 := hid (B6.out.trans (b7.mono B6.out.size)); have F7 := hid f7; clear f7 b7)
    | fail)
  have BA := albl w7 (.cells #[.int .i64 0, .int .i64 0, .int .i64 0, .int .i64 0, .string ⟨#[]⟩, .string ⟨#[]⟩, .string ⟨#[]⟩, .int .i64 0, .int .i64 0, .slice none 0 0] 32)
  have B8 := hid (B7.out.trans (BA.mono B7.out.size))
  have F8 := hid (lxbelow_cell BA F7.out.2)
  clear BA F7 G4 G5
  generalize hW8 : World.alloc w7 _ = W8 at *
  clear hW8
  generalize w7.heap.size = bb at *
  have G6 := hid (K3.out W8 (HE.out.below B8.out))
  go_upto_region 8 with (first
    | (go_at_call 11; with_reducible refine G6.out.mono ?_; rintro e9 w9 ⟨p9, c9, rfl, t9, b9⟩; have B9 := hid (B8.out.trans (b9.mono B8.out.size)); have F9 := hid (lxbelow_cell b9 F8.out); have G7 := hid (R3.out w9 p9 c9 (HE.out.below B9.out) t9); clear b9 t9)
    | (go_at_call 9; with_reducible refine G7.out.mono ?_; rintro e10 w10 ⟨⟨v0, v1, v2, v3, v4, v5, v6, v7, v8, v9, N10, X10, rfl⟩, b10⟩; have B10 := hid (B9.out.trans (b10.mono B9.out.size)); have F10 := hid (lxbelow_cell b10 F9.out); clear b10)
    | fail)
  have BA := albl w10 (.cells #[.int .i64 v0, .int .i64 v1, .int .i64 v2, .int .i64 v3, .string v4, .string v5, .string v6, .int .i64 0, .int .i64 0, .slice v7 v8 v9] 32)
  have B14 := hid (B10.out.trans (BA.mono B10.out.size))
  have F14 := hid (lxbelow_cell BA F10.out)
  clear BA F10 G6 G7
  generalize hW14 : World.alloc w10 _ = W14 at *
  clear hW14
  generalize w10.heap.size = bc at *
  have D1 := hid (quarryErr_flt W14 fb F14.out)
  go_wp2_with (first
    | (go_at_call 14; with_reducible refine D1.out.mono ?_; rintro e15 w15 ⟨rfl, b15⟩; have B15 := hid (B14.out.trans (b15.mono B14.out.size)); clear b15)
    | fail)
  go_ret
  exact ⟨rfl, B15.out⟩
set_option maxHeartbeats 16000000 in
/-- Two pairs of brackets are too much. -/
theorem bkt_e3 (s : ByteArray) (T T2 T3 : Ts) (e : Ex) (w : World) (hE : Env w) (hs : (s.size : Int) ≤ 4000) (hk : Bk s T T2 T3 e) (h2 : (lns 32).orr T2 = .ok (e, [])) (x3 : Ts) (h3 : (lns 32).orr T3 = .error (x3, 21)) :
    Calls Tryz.prog 5 #[.string s] w fun e w' => e = .returned (.bool true) ∧ Below w.heap.size w w' := by
  have HE := hid hE
  have CW := hid (works_any w hE)
  have HK := hid hk
  have K1 := hid (fun w (h : Env w) => tok_ok s T w (by omega) h.ry hk.l1)
  have K2 := hid (fun w (h : Env w) => tok_ok (⟨#[40]⟩ ++ s ++ ⟨#[10, 41]⟩) T2 w (by simp only [ByteArray.size_append]; show 1 + s.size + 2 ≤ _; omega) h.ry hk.l2)
  have K3 := hid (fun w (h : Env w) => tok_ok (⟨#[40, 40]⟩ ++ s ++ ⟨#[10, 41, 41]⟩) T3 w (by simp only [ByteArray.size_append]; show 2 + s.size + 3 ≤ _; omega) h.ry hk.l3)
  have R1 := hid (fun w p c (h : Env w) (t : TR w p T) => read0_ok (c := c) w t h.gl (lxd_of hk.l1) hk.r1 (T.length : Int) (by simp))
  have R2 := hid (fun w p c (h : Env w) (t : TR w p T2) => read0_ok (c := c) w t h.gl (lxd_of hk.l2) h2 _ rfl)
  have R3 := hid (fun w p c (h : Env w) (t : TR w p T3) => read0_err (c := c) w t h.gl (lxd_of hk.l3) h3)
  have zo : (⟨#[40]⟩ : ByteArray).size = 1 := rfl
  have zp : (⟨#[40, 40]⟩ : ByteArray).size = 2 := rfl
  have zc : (⟨#[10, 41]⟩ : ByteArray).size = 2 := rfl
  have zd : (⟨#[10, 41, 41]⟩ : ByteArray).size = 3 := rfl
  clear hE hk h2 h3
  generalize T.length = n1 at *
  generalize T2.length = n2 at *
  generalize T3.length = n3 at *
  go_enter Tryz.func5, Tryz.ntmps5
  go_upto_region 3 with (go_at_call 7; with_reducible refine CW.out.mono ?_; rintro e w1 ⟨rfl, b1⟩; have B1 := hid b1; clear b1)
  have G1 := hid (K1.out w1 (HE.out.below B1.out))
  go_upto_region 4 with (first
    | (go_at_call 11; with_reducible refine G1.out.mono ?_; rintro e w2 ⟨p2, c2, rfl, t2, b2⟩; have B2 := hid (B1.out.trans (b2.mono B1.out.size)); have G2 := hid (R1.out w2 p2 c2 (HE.out.below B2.out) t2); clear b2 t2)
    | (go_at_call 9; with_reducible refine G2.out.mono ?_; rintro e w3 ⟨pa, ca, rfl, q3, b3⟩; have B3 := hid (B2.out.trans (b3.mono B2.out.size)); have Q3 := hid q3; clear q3 b3)
    | fail)
  have BA := albl w3 (.cells #[.int .i64 e.k, .int .i64 e.op, .int .i64 e.v.k, .int .i64 e.v.n, .string e.v.s, .string ⟨e.t.toArray⟩, .string ⟨e.n.toArray⟩, .int .i64 0, .int .i64 0, .slice pa e.xs.length ca] 32)
  have B4 := hid (B3.out.trans (BA.mono B3.out.size))
  have VA := hid (VX.new ca Q3.out)
  clear BA Q3 G1 G2
  generalize hW4 : World.alloc w3 _ = W4 at *
  clear hW4
  generalize w3.heap.size = ba at *
  have G3 := hid (K1.out W4 (HE.out.below B4.out))
  go_upto_region 6 with (first
    | (go_at_call 11; with_reducible refine G3.out.mono ?_; rintro e5 w5 ⟨p5, c5, rfl, t5, b5⟩; have B5 := hid (B4.out.trans (b5.mono B4.out.size)); have VA5 := hid (VA.out.below b5); clear b5 t5)
    | fail)
  have G4 := hid (K2.out w5 (HE.out.below B5.out))
  go_upto_region 7 with (first
    | (go_at_call 11; with_reducible refine G4.out.mono ?_; rintro e6 w6 ⟨p6, c6, rfl, t6, b6⟩; have B6 := hid (B5.out.trans (b6.mono B5.out.size)); have VA6 := hid (VA5.out.below b6); have G5 := hid (R2.out w6 p6 c6 (HE.out.below B6.out) t6); clear b6 t6)
    | (go_at_call 9; with_reducible refine G5.out.mono ?_; rintro e7 w7 ⟨pb, cb, rfl, q7, b7⟩; have B7 := hid (B6.out.trans (b7.mono B6.out.size)); have VA7 := hid (VA6.out.below b7); have Q7 := hid q7; clear q7 b7)
    | fail)
  have BA := albl w7 (.cells #[.int .i64 e.k, .int .i64 e.op, .int .i64 e.v.k, .int .i64 e.v.n, .string e.v.s, .string ⟨e.t.toArray⟩, .string ⟨e.n.toArray⟩, .int .i64 0, .int .i64 0, .slice pb e.xs.length cb] 32)
  have B8 := hid (B7.out.trans (BA.mono B7.out.size))
  have VA8 := hid (VA7.out.below BA)
  have VB8 := hid (VX.new cb Q7.out)
  clear BA Q7 G4 G5
  generalize hW8 : World.alloc w7 _ = W8 at *
  clear hW8
  generalize w7.heap.size = bb at *
  have G6 := hid (K3.out W8 (HE.out.below B8.out))
  go_upto_region 8 with (first
    | (go_at_call 11; with_reducible refine G6.out.mono ?_; rintro e9 w9 ⟨p9, c9, rfl, t9, b9⟩; have B9 := hid (B8.out.trans (b9.mono B8.out.size)); have G7 := hid (R3.out w9 p9 c9 (HE.out.below B9.out) t9); clear b9 t9)
    | (go_at_call 9; with_reducible refine G7.out.mono ?_; rintro e10 w10 ⟨fc, rfl, f10, b10⟩; have B10 := hid (B9.out.trans (b10.mono B9.out.size)); have F10 := hid f10; clear f10 b10)
    | fail)
  have BA := albl w10 (.cells #[.int .i64 0, .int .i64 0, .int .i64 0, .int .i64 0, .string ⟨#[]⟩, .string ⟨#[]⟩, .string ⟨#[]⟩, .int .i64 0, .int .i64 0, .slice none 0 0] 32)
  have B14 := hid (B10.out.trans (BA.mono B10.out.size))
  have F14 := hid (lxbelow_cell BA F10.out.2)
  clear BA F10 G6 G7
  generalize hW14 : World.alloc w10 _ = W14 at *
  clear hW14
  generalize w10.heap.size = bc at *
  have D1 := hid (quarryErr_nil W14)
  go_wp2_with (first
    | (go_at_call 14; with_reducible refine D1.out.mono ?_; rintro e15 w15 ⟨rfl, b15⟩; have B15 := hid (B14.out.trans (b15.mono B14.out.size)); have D2 := hid (quarryErr_flt w15 fc (lxbelow_cell b15 F14.out)); clear b15)
    | (go_at_call 14; with_reducible refine D2.out.mono ?_; rintro e16 w16 ⟨rfl, b16⟩; have B16 := hid (B15.out.trans (b16.mono B15.out.size)); clear b16)
    | fail)
  go_ret
  exact ⟨rfl, B16.out⟩
set_option maxHeartbeats 16000000 in
/-- No brackets are too much. -/
theorem bkt_same (s : ByteArray) (T T2 T3 : Ts) (e : Ex) (w : World) (hE : Env w) (hs : (s.size : Int) ≤ 4000) (hk : Bk s T T2 T3 e) (h2 : (lns 32).orr T2 = .ok (e, [])) (h3 : (lns 32).orr T3 = .ok (e, [])) :
    Calls Tryz.prog 5 #[.string s] w fun e w' => e = .returned (.bool true) ∧ Below w.heap.size w w' := by
  have HE := hid hE
  have CW := hid (works_any w hE)
  have HK := hid hk
  have K1 := hid (fun w (h : Env w) => tok_ok s T w (by omega) h.ry hk.l1)
  have K2 := hid (fun w (h : Env w) => tok_ok (⟨#[40]⟩ ++ s ++ ⟨#[10, 41]⟩) T2 w (by simp only [ByteArray.size_append]; show 1 + s.size + 2 ≤ _; omega) h.ry hk.l2)
  have K3 := hid (fun w (h : Env w) => tok_ok (⟨#[40, 40]⟩ ++ s ++ ⟨#[10, 41, 41]⟩) T3 w (by simp only [ByteArray.size_append]; show 2 + s.size + 3 ≤ _; omega) h.ry hk.l3)
  have R1 := hid (fun w p c (h : Env w) (t : TR w p T) => read0_ok (c := c) w t h.gl (lxd_of hk.l1) hk.r1 (T.length : Int) (by simp))
  have R2 := hid (fun w p c (h : Env w) (t : TR w p T2) => read0_ok (c := c) w t h.gl (lxd_of hk.l2) h2 _ rfl)
  have R3 := hid (fun w p c (h : Env w) (t : TR w p T3) => read0_ok (c := c) w t h.gl (lxd_of hk.l3) h3 _ rfl)
  have zo : (⟨#[40]⟩ : ByteArray).size = 1 := rfl
  have zp : (⟨#[40, 40]⟩ : ByteArray).size = 2 := rfl
  have zc : (⟨#[10, 41]⟩ : ByteArray).size = 2 := rfl
  have zd : (⟨#[10, 41, 41]⟩ : ByteArray).size = 3 := rfl
  clear hE hk h2 h3
  generalize T.length = n1 at *
  generalize T2.length = n2 at *
  generalize T3.length = n3 at *
  go_enter Tryz.func5, Tryz.ntmps5
  go_upto_region 3 with (go_at_call 7; with_reducible refine CW.out.mono ?_; rintro e w1 ⟨rfl, b1⟩; have B1 := hid b1; clear b1)
  have G1 := hid (K1.out w1 (HE.out.below B1.out))
  go_upto_region 4 with (first
    | (go_at_call 11; with_reducible refine G1.out.mono ?_; rintro e w2 ⟨p2, c2, rfl, t2, b2⟩; have B2 := hid (B1.out.trans (b2.mono B1.out.size)); have G2 := hid (R1.out w2 p2 c2 (HE.out.below B2.out) t2); clear b2 t2)
    | (go_at_call 9; with_reducible refine G2.out.mono ?_; rintro e w3 ⟨pa, ca, rfl, q3, b3⟩; have B3 := hid (B2.out.trans (b3.mono B2.out.size)); have Q3 := hid q3; clear q3 b3)
    | fail)
  have BA := albl w3 (.cells #[.int .i64 e.k, .int .i64 e.op, .int .i64 e.v.k, .int .i64 e.v.n, .string e.v.s, .string ⟨e.t.toArray⟩, .string ⟨e.n.toArray⟩, .int .i64 0, .int .i64 0, .slice pa e.xs.length ca] 32)
  have B4 := hid (B3.out.trans (BA.mono B3.out.size))
  have VA := hid (VX.new ca Q3.out)
  clear BA Q3 G1 G2
  generalize hW4 : World.alloc w3 _ = W4 at *
  clear hW4
  generalize w3.heap.size = ba at *
  have G3 := hid (K1.out W4 (HE.out.below B4.out))
  go_upto_region 6 with (first
    | (go_at_call 11; with_reducible refine G3.out.mono ?_; rintro e5 w5 ⟨p5, c5, rfl, t5, b5⟩; have B5 := hid (B4.out.trans (b5.mono B4.out.size)); have VA5 := hid (VA.out.below b5); clear b5 t5)
    | fail)
  have G4 := hid (K2.out w5 (HE.out.below B5.out))
  go_upto_region 7 with (first
    | (go_at_call 11; with_reducible refine G4.out.mono ?_; rintro e6 w6 ⟨p6, c6, rfl, t6, b6⟩; have B6 := hid (B5.out.trans (b6.mono B5.out.size)); have VA6 := hid (VA5.out.below b6); have G5 := hid (R2.out w6 p6 c6 (HE.out.below B6.out) t6); clear b6 t6)
    | (go_at_call 9; with_reducible refine G5.out.mono ?_; rintro e7 w7 ⟨pb, cb, rfl, q7, b7⟩; have B7 := hid (B6.out.trans (b7.mono B6.out.size)); have VA7 := hid (VA6.out.below b7); have Q7 := hid q7; clear q7 b7)
    | fail)
  have BA := albl w7 (.cells #[.int .i64 e.k, .int .i64 e.op, .int .i64 e.v.k, .int .i64 e.v.n, .string e.v.s, .string ⟨e.t.toArray⟩, .string ⟨e.n.toArray⟩, .int .i64 0, .int .i64 0, .slice pb e.xs.length cb] 32)
  have B8 := hid (B7.out.trans (BA.mono B7.out.size))
  have VA8 := hid (VA7.out.below BA)
  have VB8 := hid (VX.new cb Q7.out)
  clear BA Q7 G4 G5
  generalize hW8 : World.alloc w7 _ = W8 at *
  clear hW8
  generalize w7.heap.size = bb at *
  have G6 := hid (K3.out W8 (HE.out.below B8.out))
  go_upto_region 10 with (first
    | (go_at_call 11; with_reducible refine G6.out.mono ?_; rintro e9 w9 ⟨p9, c9, rfl, t9, b9⟩; have B9 := hid (B8.out.trans (b9.mono B8.out.size)); have VA9 := hid (VA8.out.below b9); have VB9 := hid (VB8.out.below b9); have G7 := hid (R3.out w9 p9 c9 (HE.out.below B9.out) t9); clear b9 t9)
    | (go_at_call 9; with_reducible refine G7.out.mono ?_; rintro e10 w10 ⟨pc, cc, rfl, q10, b10⟩; have B10 := hid (B9.out.trans (b10.mono B9.out.size)); have VA10 := hid (VA9.out.below b10); have VB10 := hid (VB9.out.below b10); have Q10 := hid q10; clear q10 b10)
    | fail)
  have BA := albl w10 (.cells #[.int .i64 e.k, .int .i64 e.op, .int .i64 e.v.k, .int .i64 e.v.n, .string e.v.s, .string ⟨e.t.toArray⟩, .string ⟨e.n.toArray⟩, .int .i64 0, .int .i64 0, .slice pc e.xs.length cc] 32)
  have B14 := hid (B10.out.trans (BA.mono B10.out.size))
  have VA14 := hid (VA10.out.below BA)
  have VB14 := hid (VB10.out.below BA)
  have VC14 := hid (VX.new cc Q10.out)
  clear BA Q10 G6 G7
  generalize hW14 : World.alloc w10 _ = W14 at *
  clear hW14
  generalize w10.heap.size = bc at *
  have S1 : Hid (∀ (d : Nat) (os : Array Obj), Calls Tryz.prog 12 #[.agg #[.int .i64 e.k, .int .i64 e.op, .int .i64 e.v.k, .int .i64 e.v.n, .string e.v.s, .string ⟨e.t.toArray⟩, .string ⟨e.n.toArray⟩, .int .i64 0, .int .i64 0, .slice pa e.xs.length ca], .agg #[.int .i64 e.k, .int .i64 e.op, .int .i64 e.v.k, .int .i64 e.v.n, .string e.v.s, .string ⟨e.t.toArray⟩, .string ⟨e.n.toArray⟩, .int .i64 0, .int .i64 0, .slice pb e.xs.length cb]] (grow (redrawn W14 d) os) fun e w'' => e = .returned (.bool true) ∧ ∃ q : Regrown, w'' = grow (redrawn W14 q.d) q.os) := fun d os => Calls.regrown_of (same_is _ e e pa pb ca cb true (by simp) HK.out.ok (VA14.out.below (below_regrown W14 d os)).2 (VB14.out.below (below_regrown W14 d os)).2)
  have S2 : Hid (∀ (d : Nat) (os : Array Obj), Calls Tryz.prog 12 #[.agg #[.int .i64 e.k, .int .i64 e.op, .int .i64 e.v.k, .int .i64 e.v.n, .string e.v.s, .string ⟨e.t.toArray⟩, .string ⟨e.n.toArray⟩, .int .i64 0, .int .i64 0, .slice pa e.xs.length ca], .agg #[.int .i64 e.k, .int .i64 e.op, .int .i64 e.v.k, .int .i64 e.v.n, .string e.v.s, .string ⟨e.t.toArray⟩, .string ⟨e.n.toArray⟩, .int .i64 0, .int .i64 0, .slice pc e.xs.length cc]] (grow (redrawn W14 d) os) fun e w'' => e = .returned (.bool true) ∧ ∃ q : Regrown, w'' = grow (redrawn W14 q.d) q.os) := fun d os => Calls.regrown_of (same_is _ e e pa pc ca cc true (by simp) HK.out.ok (VA14.out.below (below_regrown W14 d os)).2 (VC14.out.below (below_regrown W14 d os)).2)
  have P1 : Hid (∀ (d : Nat) (os : Array Obj), Calls Tryz.prog 10 #[.agg #[.int .i64 e.k, .int .i64 e.op, .int .i64 e.v.k, .int .i64 e.v.n, .string e.v.s, .string ⟨e.t.toArray⟩, .string ⟨e.n.toArray⟩, .int .i64 0, .int .i64 0, .slice pa e.xs.length ca]] (grow (redrawn W14 d) os) fun r w'' => r = .returned (.string ⟨(prE e).toArray⟩) ∧ ∃ q : Regrown, w'' = grow (redrawn W14 q.d) q.os) := fun d os => by
    obtain ⟨k1, q1⟩ := (VA14.out.below (below_regrown W14 d os)).2
    have he := HE.out.below (B14.out.trans ((below_regrown W14 d os).mono B14.out.size))
    exact Calls.regrown_of (print_any k1 e pa ca (HK.out.ok k1) q1 he.gl he.rd (by have := HK.out.sm; omega))
  have P2 : Hid (∀ (d : Nat) (os : Array Obj), Calls Tryz.prog 10 #[.agg #[.int .i64 e.k, .int .i64 e.op, .int .i64 e.v.k, .int .i64 e.v.n, .string e.v.s, .string ⟨e.t.toArray⟩, .string ⟨e.n.toArray⟩, .int .i64 0, .int .i64 0, .slice pb e.xs.length cb]] (grow (redrawn W14 d) os) fun r w'' => r = .returned (.string ⟨(prE e).toArray⟩) ∧ ∃ q : Regrown, w'' = grow (redrawn W14 q.d) q.os) := fun d os => by
    obtain ⟨k1, q1⟩ := (VB14.out.below (below_regrown W14 d os)).2
    have he := HE.out.below (B14.out.trans ((below_regrown W14 d os).mono B14.out.size))
    exact Calls.regrown_of (print_any k1 e pb cb (HK.out.ok k1) q1 he.gl he.rd (by have := HK.out.sm; omega))
  generalize (⟨(prE e).toArray⟩ : ByteArray) = U1 at *
  obtain ⟨x0, x1, x2, x3, x4, x5, x6, x7, x8, x9⟩ := VA14.out.1.cells
  obtain ⟨y0, y1, y2, y3, y4, y5, y6, y7, y8, y9⟩ := VB14.out.1.cells
  obtain ⟨r0, r1, r2, r3, r4, r5, r6, r7, r8, r9⟩ := VC14.out.1.cells
  have qx0 := fun (d : Nat) (os : Array Obj) => cell_regrown x0 d os
  have qx1 := fun (d : Nat) (os : Array Obj) => cell_regrown x1 d os
  have qx2 := fun (d : Nat) (os : Array Obj) => cell_regrown x2 d os
  have qx3 := fun (d : Nat) (os : Array Obj) => cell_regrown x3 d os
  have qx4 := fun (d : Nat) (os : Array Obj) => cell_regrown x4 d os
  have qx5 := fun (d : Nat) (os : Array Obj) => cell_regrown x5 d os
  have qx6 := fun (d : Nat) (os : Array Obj) => cell_regrown x6 d os
  have qx7 := fun (d : Nat) (os : Array Obj) => cell_regrown x7 d os
  have qx8 := fun (d : Nat) (os : Array Obj) => cell_regrown x8 d os
  have qx9 := fun (d : Nat) (os : Array Obj) => cell_regrown x9 d os
  have qy0 := fun (d : Nat) (os : Array Obj) => cell_regrown y0 d os
  have qy1 := fun (d : Nat) (os : Array Obj) => cell_regrown y1 d os
  have qy2 := fun (d : Nat) (os : Array Obj) => cell_regrown y2 d os
  have qy3 := fun (d : Nat) (os : Array Obj) => cell_regrown y3 d os
  have qy4 := fun (d : Nat) (os : Array Obj) => cell_regrown y4 d os
  have qy5 := fun (d : Nat) (os : Array Obj) => cell_regrown y5 d os
  have qy6 := fun (d : Nat) (os : Array Obj) => cell_regrown y6 d os
  have qy7 := fun (d : Nat) (os : Array Obj) => cell_regrown y7 d os
  have qy8 := fun (d : Nat) (os : Array Obj) => cell_regrown y8 d os
  have qy9 := fun (d : Nat) (os : Array Obj) => cell_regrown y9 d os
  have qr0 := fun (d : Nat) (os : Array Obj) => cell_regrown r0 d os
  have qr1 := fun (d : Nat) (os : Array Obj) => cell_regrown r1 d os
  have qr2 := fun (d : Nat) (os : Array Obj) => cell_regrown r2 d os
  have qr3 := fun (d : Nat) (os : Array Obj) => cell_regrown r3 d os
  have qr4 := fun (d : Nat) (os : Array Obj) => cell_regrown r4 d os
  have qr5 := fun (d : Nat) (os : Array Obj) => cell_regrown r5 d os
  have qr6 := fun (d : Nat) (os : Array Obj) => cell_regrown r6 d os
  have qr7 := fun (d : Nat) (os : Array Obj) => cell_regrown r7 d os
  have qr8 := fun (d : Nat) (os : Array Obj) => cell_regrown r8 d os
  have qr9 := fun (d : Nat) (os : Array Obj) => cell_regrown r9 d os
  clear x0 x1 x2 x3 x4 x5 x6 x7 x8 x9 y0 y1 y2 y3 y4 y5 y6 y7 y8 y9 r0 r1 r2 r3 r4 r5 r6 r7 r8 r9 zo zp zc zd
  refine wp_region_quiet_below (by kernel_rfl) (by kernel_rfl) ?_
  repeat (first | go_big_quiet_step (first | (with_reducible exact S1.out _ _) | (with_reducible exact S2.out _ _) | (with_reducible exact P1.out _ _) | (with_reducible exact P2.out _ _)) | quiet_step (first | (with_reducible exact S1.out _ _) | (with_reducible exact S2.out _ _) | (with_reducible exact P1.out _ _) | (with_reducible exact P2.out _ _)))
  refine wpQuiet_nil ?_
  intro _ hw'
  obtain ⟨⟨dq, osq⟩, hw''⟩ := hw'
  subst hw''
  go_wp2_with fail
  go_ret
  exact ⟨rfl, B14.out.trans ((below_regrown W14 dq osq).mono B14.out.size)⟩
/-- Whatever the text. -/
theorem brackets_any (s : ByteArray) (w : World) (hE : Env w) (hs : s.size ≤ 140737488351232) :
    Calls Tryz.prog 5 #[.string s] w fun e w' => e = .returned (.bool true) ∧ Below w.heap.size w w' := by
  cases hl : lexR s.data.toList with
  | error z => exact bkt_no s w hE hs (Or.inl ⟨z, hl⟩)
  | ok T =>
    cases hr : (lns 32).orr T with
    | error z => exact bkt_no s w hE hs (Or.inr ⟨T, z, hl, hr⟩)
    | ok z =>
      obtain ⟨e, r⟩ := z
      by_cases h0 : r = []
      · subst h0
        by_cases h4 : (s.size : Int) ≤ 4000
        · obtain ⟨T2, T3, hk, h2, h3⟩ := bk_of (by omega) hl hr
          rcases h2 with h2 | ⟨x2, h2⟩
          · rcases h3 with h3 | ⟨x3, h3⟩
            · exact bkt_same s T T2 T3 e w hE h4 hk h2 h3
            · exact bkt_e3 s T T2 T3 e w hE h4 hk h2 x3 h3
          · exact bkt_e2 s T T2 T3 e w hE h4 hk x2 h2 h3
        · exact bkt_part s T [] e (T.length : Int) w hE hs hl hr (by simp) (Or.inr ⟨rfl, h4⟩)
      · have hp : 0 < r.length := List.length_pos_iff.2 h0
        exact bkt_part s T r e _ w hE hs hl hr rfl (Or.inl (by omega))
end Go.Proofs.YtekapdpfbkdflaaGreatDoor
