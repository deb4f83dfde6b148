/- What the laws of expressions read: the words of a text, and the expression that they are. Conditions: the library's variables hold what their text lays. -/
import Derived.Test.YtekapdpfbkdflaaGreatDoorLxTkR
import Derived.Test.YtekapdpfbkdflaaGreatDoorLxAgainP
import Derived.Test.YtekapdpfbkdflaaGreatDoorXN
import Derived.Test.YtekapdpfbkdflaaGreatDoorExPrint
import Derived.Test.YtekapdpfbkdflaaGreatDoorExSame
import Derived.Test.YtekapdpfbkdflaaGreatDoorExLeftP
namespace Go.Proofs.YtekapdpfbkdflaaGreatDoor
open Go.RowKit Go.Lib Go.Sort
set_option linter.unusedVariables false
set_option maxRecDepth 20000

theorem good_n {t : Tk} (h : GoodT t) : -9223372036854775808 ≤ t.n ∧ t.n ≤ 9223372036854775807 := by
  rcases h with ⟨_, h, _⟩ | ⟨_, _, h0, h1⟩ | ⟨_, h⟩ | ⟨_, h⟩ | ⟨_, h, _⟩ <;> omega

/-- Words of a text. -/
structure Lxd (xs : Ts) : Prop where
  len : xs.length ≤ 16384
  pls : ∀ i (h : i < xs.length), xs[i].2 ≤ 16384
  txt : ∀ x ∈ xs, x.1.s.length ≤ 16384
  tk : TkOk xs
theorem lxd_of {l : List UInt8} {xs : Ts} (h : lexR l = .ok xs) : Lxd xs := by
  obtain ⟨hl, ht⟩ := lexR_ok h
  have h1 := toks_len _ _ _ _ ht
  have h2 := toks_place _ _ _ _ ht
  have h3 := toks_slen _ _ _ _ ht
  have h4 := toks_good _ _ _ _ ht
  refine ⟨by omega, fun i hi => ?_, fun x hx => ?_, fun x hx => ?_⟩
  · have := h2 _ (List.getElem_mem hi); omega
  · have := h3 x hx; omega
  · have := h3 x hx
    have := good_n (h4 x hx)
    exact ⟨by omega, this⟩
/-- The words of a text, for a law. -/
theorem tok_ok (s : ByteArray) (xs : Ts) (w : World) (hs : s.size ≤ 140737488351232) (hw : Rdy w) (h : lexR s.data.toList = .ok xs) :
    Calls Tryz.prog 11 #[.string s] w fun e w' => ∃ p c, e = .returned (.slice p xs.length c) ∧ TR w' p xs ∧ Below w.heap.size w w' := by
  have C := hid (xtok_ok s xs w hs hw h)
  clear h hw
  go_enter Tryz.func11, Tryz.ntmps11
  go_wp2_with (go_at_call 8; with_reducible refine C.out.mono ?_; rintro e w2 ⟨p, c, rfl, t2, m2, b2⟩; have T2 := hid t2; have B2 := hid b2; clear t2 b2 m2)
  go_ret
  exact ⟨p, c, rfl, T2.out, B2.out⟩
theorem tok_err (s : ByteArray) (i : Nat) (n : Int) (w : World) (hs : s.size ≤ 140737488351232) (hw : Rdy w) (h : lexR s.data.toList = .error (i, n)) :
    Calls Tryz.prog 11 #[.string s] w fun e w' => e = .returned (.slice none 0 0) ∧ Below w.heap.size w w' := by
  have C := hid (xtok_err s i n w hs hw h)
  clear h hw
  go_enter Tryz.func11, Tryz.ntmps11
  go_wp2_with (go_at_call 8; with_reducible refine C.out.mono ?_; rintro e w2 ⟨b, rfl, x0, x1, b2⟩; have B2 := hid b2; clear x0 x1 b2)
  go_ret
  exact ⟨rfl, B2.out⟩
/-- An expression's value. -/
abbrev exA1 (e : Ex) (p : Option Addr) (c : Nat) : Value := .agg #[.int .i64 e.k, .int .i64 e.op, .int .i64 e.v.k, .int .i64 e.v.n, .string e.v.s, .string ⟨e.t.toArray⟩, .string ⟨e.n.toArray⟩, .int .i64 0, .int .i64 0, .slice p e.xs.length c]
theorem orr_nil : (lns 32).orr [] = .error ([], 20) := rfl
/-- Read, from the first word on. -/
theorem read0_ok {p : Option Addr} {c : Nat} {xs r : Ts} {e : Ex} (w : World) (ht : TR w p xs) (hg : Gl w) (hx : Lxd xs) (h : (lns 32).orr xs = .ok (e, r)) (N : Int) (hN : N = (xs.length : Int) - (r.length : Int)) :
    Calls Tryz.prog 9 #[.slice p xs.length c, .int .i64 0] w fun ev w' => ∃ pe ce, ev = .returned (.tuple #[.agg #[.int .i64 e.k, .int .i64 e.op, .int .i64 e.v.k, .int .i64 e.v.n, .string e.v.s, .string ⟨e.t.toArray⟩, .string ⟨e.n.toArray⟩, .int .i64 0, .int .i64 0, .slice pe e.xs.length ce], .int .i64 N, .nilIface]) ∧ (∃ k, EAt w' (fun _ => True) k e pe) ∧ Below w.heap.size w w' := by
  have hi : 0 < xs.length := by
    cases xs with
    | nil => rw [orr_nil] at h; cases h
    | cons x r => simp
  have C := read_any (c := c) 0 w hi ht hg (by have := hx.len; omega) (fun i hi => by have := hx.pls i hi; omega) (fun x hx' => by have := hx.txt x hx'; omega)
  rw [List.drop_zero, h] at C
  refine C.mono ?_
  rintro ev w' ⟨hb, v, rfl, pe, ce, rfl, k, hE⟩
  subst hN
  exact ⟨pe, ce, rfl, ⟨k, hE.mono (fun _ _ _ => trivial)⟩, hb⟩
theorem read0_err {p : Option Addr} {c : Nat} {xs r : Ts} {n : Int} (w : World) (ht : TR w p xs) (hg : Gl w) (hx : Lxd xs) (h : (lns 32).orr xs = .error (r, n)) :
    Calls Tryz.prog 9 #[.slice p xs.length c, .int .i64 0] w fun ev w' => ∃ b, ev = .returned (.tuple #[.agg #[.int .i64 0, .int .i64 0, .int .i64 0, .int .i64 0, .string ⟨#[]⟩, .string ⟨#[]⟩, .string ⟨#[]⟩, .int .i64 0, .int .i64 0, .slice none 0 0], .int .i64 0, .iface 50 (.pointer (some ⟨b, 0, none⟩))]) ∧ (w'.cell? ⟨b, 0, none⟩ = some (.int .i64 (plc xs r)) ∧ w'.cell? ⟨b, 1, none⟩ = some (.iface 41 (.int .i64 n))) ∧ Below w.heap.size w w' := by
  cases xs with
  | nil =>
    rw [orr_nil] at h
    cases h
    refine (read_no p 0 c 0 w (Or.inr (Int.le_refl _))).mono ?_
    rintro ev w' ⟨hb, b, rfl, hf⟩
    exact ⟨b, rfl, hf, hb⟩
  | cons x l =>
    have C := read_any (c := c) 0 w (by simp) ht hg (by have := hx.len; omega) (fun i hi => by have := hx.pls i hi; omega) (fun x hx' => by have := hx.txt x hx'; omega)
    rw [List.drop_zero, h] at C
    refine C.mono ?_
    rintro ev w' ⟨hb, b, rfl, hf⟩
    exact ⟨b, rfl, hf, hb⟩
theorem oka_num {n : Int} (h : -9223372036854775808 ≤ n ∧ n ≤ 9223372036854775807) : OkA (numE n) := oka_lit ⟨Nat.zero_le _, h⟩
theorem oka_exE : OkA exE := oka_two _ _ (oka_two _ _ (oka_num (by decide)) (oka_two _ _ (oka_num (by decide)) (oka_num (by decide)))) (oka_num (by decide))
theorem lex_exA : lexR exA = .ok exAT := by
  unfold lexR
  rw [if_neg (by decide), toks_exA]
  rfl
theorem lex_exB : lexR exB = .ok exBT := by
  unfold lexR
  rw [if_neg (by decide), toks_exB]
  rfl
/-- What the laws want of memory. -/
structure Env (w : World) : Prop where
  gl : Gl w
  rd : Ready w
  ry : Rdy w
  er : ErrT w
theorem Env.below {w w' : World} (h : Env w) (B : Below w.heap.size w w') : Env w' := ⟨h.gl.below B, h.rd.below B, h.ry.below B, h.er.below B⟩
set_option maxHeartbeats 8000000 in
theorem works_any (w : World) (hE : Env w) :
    Calls Tryz.prog 7 #[] w fun e w' => e = .returned (.bool true) ∧ Below w.heap.size w w' := by
  have HE := hid hE
  have C1 := hid (fun w (h : Env w) => tok_ok ⟨⟨exA⟩⟩ exAT w (by decide) h.ry lex_exA)
  have C2 := hid (fun w p c (h : Env w) (t : TR w p exAT) => read0_ok (c := c) w t h.gl (lxd_of lex_exA) read_exA 11 rfl)
  have C3 := hid (fun w (h : Env w) => tok_ok ⟨⟨exB⟩⟩ exBT w (by decide) h.ry lex_exB)
  have C4 := hid (fun w p c (h : Env w) (t : TR w p exBT) => read0_err (c := c) w t h.gl (lxd_of lex_exB) read_exB)
  have C5 := hid (fun w pe ce (h : Env w) k (q : EAt w (fun _ => True) k exE pe) => print_any k exE pe ce (oka_exE k) q h.gl h.rd (by rw [print_exA]; decide))
  rw [print_exA] at C5
  have e1 : exAT.length = 12 := rfl
  have e2 : exBT.length = 6 := rfl
  have e3 : plc exBT [(⟨5, [44], 0⟩, 8), (⟨1, [98], 0⟩, 10), (⟨5, [41], 0⟩, 11)] = 8 := rfl
  rw [e1] at C1 C2
  rw [e2] at C3 C4
  rw [e3] at C4
  have ea : (⟨⟨exA⟩⟩ : ByteArray) = ⟨#[40, 49, 32, 45, 32, 40, 50, 32, 45, 32, 51, 41, 41, 32, 61, 32, 52, 32, 120]⟩ := rfl
  have eb : (⟨⟨exB⟩⟩ : ByteArray) = ⟨#[108, 101, 110, 103, 116, 104, 40, 97, 44, 32, 98, 41]⟩ := rfl
  rw [ea] at C1
  rw [eb] at C3
  clear e1 e2 e3 ea eb hE
  generalize exAT = TA at *
  generalize exBT = TB at *
  generalize exE = E at *
  go_enter Tryz.func7, Tryz.ntmps7
  have D1 := hid (C1.out w HE.out)
  go_upto_region 2 with (first
    | (go_at_call 11; go_loud (with_reducible refine D1.out.mono ?_); rintro e w1 ⟨p1, c1, rfl, t1, b1⟩; have B1 := hid b1; have D2 := hid (C2.out w1 p1 c1 (HE.out.below b1) t1); clear t1 b1)
    | (go_at_call 9; go_loud (with_reducible refine D2.out.mono ?_); rintro e w2 ⟨pe, ce, rfl, ⟨ke, q2⟩, b2⟩; have Q2 := hid q2; have B2 := hid (B1.out.trans (b2.mono B1.out.size)); clear q2 b2)
    | fail)
  have HX := hid (BG.new w2 E.k E.op E.v.k E.v.n 0 0 E.v.s ⟨E.t.toArray⟩ ⟨E.n.toArray⟩ pe E.xs.length ce)
  have BA := albl w2 (.cells #[.int .i64 E.k, .int .i64 E.op, .int .i64 E.v.k, .int .i64 E.v.n, .string E.v.s, .string ⟨E.t.toArray⟩, .string ⟨E.n.toArray⟩, .int .i64 0, .int .i64 0, .slice pe E.xs.length ce] 32)
  have B3 := hid (B2.out.trans (BA.mono B2.out.size))
  have Q3 := hid (Q2.out.chg (G := fun _ => False) (Chg.of_below BA) (fun _ _ q => q))
  clear BA
  generalize hW3 : World.alloc w2 _ = W3 at *
  clear hW3
  have D3 := hid (C3.out W3 (HE.out.below B3.out))
  go_upto_region 3 with (first
    | (go_at_call 11; go_loud (with_reducible refine D3.out.mono ?_); rintro e w4 ⟨p4, c4, rfl, t4, b4⟩; have B4 := hid (B3.out.trans (b4.mono B3.out.size)); have HX4 := hid (HX.out.below b4); have Q4 := hid (Q3.out.chg (G := fun _ => False) (Chg.of_below b4) (fun _ _ q => q)); have D4 := hid (C4.out w4 p4 c4 (HE.out.below B4.out) t4); clear t4 b4)
    | (go_at_call 9; go_loud (with_reducible refine D4.out.mono ?_); rintro e w5 ⟨fb, rfl, f5, b5⟩; have B5 := hid (B4.out.trans (b5.mono B4.out.size)); have HX5 := hid (HX4.out.below b5); have Q5 := hid (Q4.out.chg (G := fun _ => False) (Chg.of_below b5) (fun _ _ q => q)); have F5 := hid f5; clear f5 b5)
    | fail)
  have BA := albl w5 (.cells #[.int .i64 0, .int .i64 0, .int .i64 0, .int .i64 0, .string ⟨#[]⟩, .string ⟨#[]⟩, .string ⟨#[]⟩, .int .i64 0, .int .i64 0, .slice none 0 0] 32)
  have B6 := hid (B5.out.trans (BA.mono B5.out.size))
  have HX6 := hid (HX5.out.below BA)
  have Q6 := hid (Q5.out.chg (G := fun _ => False) (Chg.of_below BA) (fun _ _ q => q))
  have F6 := hid (And.intro (lxbelow_cell BA F5.out.1) (lxbelow_cell BA F5.out.2))
  clear BA
  generalize hW6 : World.alloc w5 _ = W6 at *
  clear hW6
  obtain ⟨x0, x1, x2, x3, x4, x5, x6, x7, x8, x9⟩ := HX6.out.cells
  have D5 := hid (C5.out W6 pe ce (HE.out.below B6.out) ke Q6.out)
  go_wp2_with (first
    | (go_at_call 10; go_loud (with_reducible refine D5.out.mono ?_); rintro e w7 ⟨rfl, b7⟩; have B7 := hid (B6.out.trans (b7.mono B6.out.size)); have D6 := hid (seen_fault fb 8 20 w7 (HE.out.er.below B7.out) (lxbelow_cell b7 F6.out.1) (lxbelow_cell b7 F6.out.2)); clear b7)
    | (go_at_call 13; go_loud (with_reducible refine D6.out.mono ?_); rintro e w8 ⟨rfl, b8⟩; have B8 := hid (B7.out.trans (b8.mono B7.out.size)); clear b8)
    | fail)
  go_ret
  exact ⟨rfl, B8.out⟩
end Go.Proofs.YtekapdpfbkdflaaGreatDoor
