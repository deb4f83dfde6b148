/- What the laws of expressions read: the words of a text, and the expression that they are. Conditions: the library's variables hold what their text lays. The law's read: what a text says, as an expression in memory. Conditions: the library's variables hold what their text lays. -/
import Derived.Test.YtblkhlhhlalbkaaGreatDoorLE
import Derived.Test.YtblkhlhhlalbkaaGreatDoorVB
import Derived.Test.YtblkhlhhlalbkaaGreatDoorXN
import Derived.Test.YtblkhlhhlalbkaaGreatDoorXQ
import Derived.Test.YtblkhlhhlalbkaaGreatDoorXJ
import Derived.Test.YtblkhlhhlalbkaaGreatDoorVL
import Derived.Test.YtblkhlhhlalbkaaGreatDoorXX
namespace Go.Proofs.YtblkhlhhlalbkaaGreatDoor
open Go.RowKit Go.Lib Go.Sort
set_option linter.unusedVariables false
set_option maxRecDepth 20000

theorem good_n {t : Tk} (h : GoodT t) : -9223372036854775808 ≤ t.n ∧ t.n ≤ 9223372036854775807 := by
  rcases h with ⟨_, h, _⟩ | ⟨_, _, h0, h1⟩ | ⟨_, h⟩ | ⟨_, h⟩ | ⟨_, h, _⟩ <;> omega

/-- Words of a text. -/
structure Lxd (xs : Ts) : Prop where
  len : xs.length ≤ 16384
  pls : ∀ i (h : i < xs.length), xs[i].2 ≤ 16384
  txt : ∀ x ∈ xs, x.1.s.length ≤ 16384
  tk : TkOk xs
theorem lxd_of {l : List UInt8} {xs : Ts} (h : lexR l = .ok xs) : Lxd xs := by
  obtain ⟨hl, ht⟩ := lexR_ok h
  have h1 := toks_len _ _ _ _ ht
  have h2 := toks_place _ _ _ _ ht
  have h3 := toks_slen _ _ _ _ ht
  have h4 := toks_good _ _ _ _ ht
  refine ⟨by omega, fun i hi => ?_, fun x hx => ?_, fun x hx => ?_⟩
  · have := h2 _ (List.getElem_mem hi); omega
  · have := h3 x hx; omega
  · have := h3 x hx
    have := good_n (h4 x hx)
    exact ⟨by omega, this⟩
/-- An expression's value. -/
abbrev exA1 (e : Ex) (p : Option Addr) (c : Nat) : Value := .agg #[.int .i64 e.k, .int .i64 e.op, .int .i64 e.v.k, .int .i64 e.v.n, .string e.v.s, .string ⟨e.t.toArray⟩, .string ⟨e.n.toArray⟩, .int .i64 0, .int .i64 0, .slice p e.xs.length c]
theorem orr_nil : (lns 32).orr [] = .error ([], 20) := rfl
/-- Read, from the first word on. -/
theorem read0_ok {p : Option Addr} {c : Nat} {xs r : Ts} {e : Ex} (w : World) (ht : TR w p xs) (hg : Gl w) (hx : Lxd xs) (h : (lns 32).orr xs = .ok (e, r)) (N : Int) (hN : N = (xs.length : Int) - (r.length : Int)) :
    Calls Tryz.prog 57 #[.slice p xs.length c, .int .i64 0] w fun ev w' => ∃ pe ce, ev = .returned (.tuple #[.agg #[.int .i64 e.k, .int .i64 e.op, .int .i64 e.v.k, .int .i64 e.v.n, .string e.v.s, .string ⟨e.t.toArray⟩, .string ⟨e.n.toArray⟩, .int .i64 0, .int .i64 0, .slice pe e.xs.length ce], .int .i64 N, .nilIface]) ∧ (∃ k, EAt w' (fun _ => True) k e pe) ∧ Below w.heap.size w w' ∧ e.xs.length ≤ ce := by
  have hi : 0 < xs.length := by
    cases xs with
    | nil => rw [orr_nil] at h; cases h
    | cons x r => simp
  have C := read_any (c := c) 0 w hi ht hg (by have := hx.len; omega) (fun i hi => by have := hx.pls i hi; omega) (fun x hx' => by have := hx.txt x hx'; omega)
  rw [List.drop_zero, h] at C
  refine C.mono ?_
  rintro ev w' ⟨hb, v, rfl, pe, ce, rfl, k, hE, hcp0⟩
  subst hN
  exact ⟨pe, ce, rfl, ⟨k, hE.mono (fun _ _ _ => trivial)⟩, hb, hcp0⟩
theorem read0_err {p : Option Addr} {c : Nat} {xs r : Ts} {n : Int} (w : World) (ht : TR w p xs) (hg : Gl w) (hx : Lxd xs) (h : (lns 32).orr xs = .error (r, n)) :
    Calls Tryz.prog 57 #[.slice p xs.length c, .int .i64 0] w fun ev w' => ∃ b, ev = .returned (.tuple #[.agg #[.int .i64 0, .int .i64 0, .int .i64 0, .int .i64 0, .string ⟨#[]⟩, .string ⟨#[]⟩, .string ⟨#[]⟩, .int .i64 0, .int .i64 0, .slice none 0 0], .int .i64 0, .iface 100 (.pointer (some ⟨b, 0, none⟩))]) ∧ (w'.cell? ⟨b, 0, none⟩ = some (.int .i64 (plc xs r)) ∧ w'.cell? ⟨b, 1, none⟩ = some (.iface 35 (.int .i64 n))) ∧ Below w.heap.size w w' := by
  cases xs with
  | nil =>
    rw [orr_nil] at h
    cases h
    refine (read_no p 0 c 0 w (Or.inr (Int.le_refl _))).mono ?_
    rintro ev w' ⟨hb, b, rfl, hf⟩
    exact ⟨b, rfl, hf, hb⟩
  | cons x l =>
    have C := read_any (c := c) 0 w (by simp) ht hg (by have := hx.len; omega) (fun i hi => by have := hx.pls i hi; omega) (fun x hx' => by have := hx.txt x hx'; omega)
    rw [List.drop_zero, h] at C
    refine C.mono ?_
    rintro ev w' ⟨hb, b, rfl, hf⟩
    exact ⟨b, rfl, hf, hb⟩
theorem oka_num {n : Int} (h : -9223372036854775808 ≤ n ∧ n ≤ 9223372036854775807) : OkA (numE n) := oka_lit ⟨Nat.zero_le _, h⟩
theorem oka_exE : OkA exE := oka_two _ _ (oka_two _ _ (oka_num (by decide)) (oka_two _ _ (oka_num (by decide)) (oka_num (by decide)))) (oka_num (by decide))
theorem lex_exA : lexR exA = .ok exAT := by
  unfold lexR
  rw [if_neg (by decide), toks_exA]
  rfl
theorem lex_exB : lexR exB = .ok exBT := by
  unfold lexR
  rw [if_neg (by decide), toks_exB]
  rfl
end Go.Proofs.YtblkhlhhlalbkaaGreatDoor
namespace Go.Proofs.YtblkhlhhlalbkaaGreatDoor
open Go.RowKit Go.Lib Go.Sort
set_option linter.unusedVariables false
set_option maxRecDepth 20000

theorem read0_new {p : Option Addr} {c : Nat} {xs r : Ts} {e : Ex} (w : World) (ht : TR w p xs) (hg : Gl w) (hx : Lxd xs) (h : (lns 32).orr xs = .ok (e, r)) :
    Calls Tryz.prog 57 #[.slice p xs.length c, .int .i64 0] w fun ev w' => ∃ pe ce N, ev = .returned (.tuple #[.agg #[.int .i64 e.k, .int .i64 e.op, .int .i64 e.v.k, .int .i64 e.v.n, .string e.v.s, .string ⟨e.t.toArray⟩, .string ⟨e.n.toArray⟩, .int .i64 0, .int .i64 0, .slice pe e.xs.length ce], .int .i64 N, .nilIface]) ∧ (∃ k, EAt w' (fun j => w.heap.size ≤ j) k e pe) ∧ Below w.heap.size w w' ∧ e.xs.length ≤ ce := by
  have hi : 0 < xs.length := by
    cases xs with
    | nil => rw [orr_nil] at h; cases h
    | cons x r => simp
  have C := read_any (c := c) 0 w hi ht hg (by have := hx.len; omega) (fun i hi => by have := hx.pls i hi; omega) (fun x hx' => by have := hx.txt x hx'; omega)
  rw [List.drop_zero, h] at C
  refine C.mono ?_
  rintro ev w' ⟨hb, v, rfl, pe, ce, rfl, k, hE, hcp0⟩
  exact ⟨pe, ce, _, rfl, ⟨k, hE.mono (fun _ _ q => q)⟩, hb, hcp0⟩
/-- What evaluation and reading want of memory. -/
structure Ew (w : World) : Prop where
  tb : Tb w
  ry : Rdy w
theorem Ew.below {w w' : World} (h : Ew w) (B : Below w.heap.size w w') : Ew w' := ⟨h.tb.below B, h.ry.below B⟩
theorem resX_new (w : World) : ResX (w.alloc (.cells #[.int .i64 0, .int .i64 0, .int .i64 0, .int .i64 0, .string ⟨#[]⟩, .string ⟨#[]⟩, .string ⟨#[]⟩, .int .i64 0, .int .i64 0, .slice none 0 0] 26)) w.heap.size := heap_alloc_new w _
theorem below_put10 {w w2 : World} {v0 v1 v2 v3 v4 v5 v6 v7 v8 v9 : Value} (h : Below w.heap.size w w2) : Below w.heap.size w (put10 w2 w.heap.size v0 v1 v2 v3 v4 v5 v6 v7 v8 v9) := by
  unfold put10
  have st : ∀ {y : World} (i : Nat) (v : Value), Below w.heap.size w y → Below w.heap.size w (y.setCell ⟨w.heap.size, i, none⟩ v) := fun i v h => h.setCell (p := ⟨w.heap.size, i, none⟩) (Nat.le_refl _) v
  exact st 9 _ (st 8 _ (st 7 _ (st 6 _ (st 5 _ (st 4 _ (st 3 _ (st 2 _ (st 1 _ (st 0 _ h)))))))))
set_option maxHeartbeats 8000000 in
theorem lread_ok (s : ByteArray) {xs r : Ts} {e : Ex} (w : World) (hs : s.size ≤ 140737488351232) (hE : Ew w) (h : lexR s.data.toList = .ok xs) (h2 : (lns 32).orr xs = .ok (e, r)) :
    Calls Tryz.prog 31 #[.string s] w fun ev w' => ∃ pe ce, ev = .returned (.agg #[.int .i64 e.k, .int .i64 e.op, .int .i64 e.v.k, .int .i64 e.v.n, .string e.v.s, .string ⟨e.t.toArray⟩, .string ⟨e.n.toArray⟩, .int .i64 0, .int .i64 0, .slice pe e.xs.length ce]) ∧ (∃ k, EAt w' (fun j => w.heap.size ≤ j) k e pe) ∧ Below w.heap.size w w' ∧ e.xs.length ≤ ce := by
  have HE := hid hE
  have C1 := hid (fun w (h' : Ew w) => xtok_ok s xs w hs h'.ry h)
  have C2 := hid (fun w p c (h' : Ew w) (t : TR w p xs) => read0_new (c := c) w t h'.tb.gl (lxd_of h) h2)
  have hR := resX_new w
  have BA := albl w (.cells #[.int .i64 0, .int .i64 0, .int .i64 0, .int .i64 0, .string ⟨#[]⟩, .string ⟨#[]⟩, .string ⟨#[]⟩, .int .i64 0, .int .i64 0, .slice none 0 0] 26)
  have hsz : (w.alloc (.cells #[.int .i64 0, .int .i64 0, .int .i64 0, .int .i64 0, .string ⟨#[]⟩, .string ⟨#[]⟩, .string ⟨#[]⟩, .int .i64 0, .int .i64 0, .slice none 0 0] 26)).heap.size = w.heap.size + 1 := by simp
  clear hE h h2 hs
  go_enter Tryz.func31, Tryz.ntmps31
  go_upto_region 1 with fail
  have HR := hid hR
  have B0 := hid BA
  clear hR BA
  generalize hW : World.alloc w _ = W at *
  clear hW
  have HS := hid hsz
  have D1 := hid (C1.out W (HE.out.below B0.out))
  clear hsz
  go_upto_region 2 with (first
    | (go_at_call 56; go_loud (with_reducible refine D1.out.mono ?_); rintro v w1 ⟨p1, c1, rfl, t1, m1, b1⟩; have B1 := hid (B0.out.trans (b1.mono B0.out.size)); have HR1 := hid (HR.out.below b1 (by have := HS.out; omega)); have hl1 := b1.size; have D2 := hid (C2.out w1 p1 c1 (HE.out.below B1.out) t1); clear t1 b1 m1)
    | fail)
  go_upto_region 3 with (first
    | (go_at_call 57; go_loud (with_reducible refine D2.out.mono ?_); rintro v w2 ⟨pe, ce, N, rfl, ⟨ke, q2⟩, b2, hc2⟩; have Q2 := hid q2; have B2 := hid (B1.out.trans (b2.mono B1.out.size)); have HR2 := hid (HR1.out.below b2 (by have := HS.out; omega)); have hl2 := b2.size; clear q2 b2)
    | fail)
  have BA := albl w2 (.cells #[.int .i64 e.k, .int .i64 e.op, .int .i64 e.v.k, .int .i64 e.v.n, .string e.v.s, .string ⟨e.t.toArray⟩, .string ⟨e.n.toArray⟩, .int .i64 0, .int .i64 0, .slice pe e.xs.length ce] 26)
  have HX := hid (BG.new w2 e.k e.op e.v.k e.v.n 0 0 e.v.s ⟨e.t.toArray⟩ ⟨e.n.toArray⟩ pe e.xs.length ce)
  have B3 := hid (B2.out.trans (BA.mono B2.out.size))
  have Q3 := hid (Q2.out.chg (G := fun _ => False) (Chg.of_below BA) (fun _ _ q => q))
  have HR3 := hid (HR2.out.below BA (by have := HS.out; omega))
  have hl3 := BA.size
  clear BA
  generalize hW3 : World.alloc w2 _ = W3 at *
  clear hW3
  obtain ⟨x0, x1, x2, x3, x4, x5, x6, x7, x8, x9⟩ := HX.out.cells
  obtain ⟨z0, z1, z2, z3, z4, z5, z6, z7, z8, z9⟩ := HR3.out.cells
  have zf := HR3.out.frozen
  have hlw : w.heap.size < W3.heap.size := by have := HS.out; omega
  go_wp2_with fail
  refine bodyPost_ret (by simp [results, Tryz.results31, go_sem, z0, z1, z2, z3, z4, z5, z6, z7, z8, z9]; try rfl) rfl ?_
  refine ⟨pe, ce, rfl, ⟨ke, ?_⟩, below_put10 B3.out, hc2⟩
  have hq : ∀ j, w1.heap.size ≤ j → w.heap.size ≤ j ∧ j ≠ w.heap.size := fun j q => by have := HS.out; exact ⟨by omega, by omega⟩
  exact ((Q3.out.mono (G := fun j => w.heap.size ≤ j ∧ j ≠ w.heap.size) (fun j _ q => hq j q)).chg (put10_chg W3 w.heap.size (.int .i64 e.k) (.int .i64 e.op) (.int .i64 e.v.k) (.int .i64 e.v.n) (.string e.v.s) (.string ⟨e.t.toArray⟩) (.string ⟨e.n.toArray⟩) (.int .i64 0) (.int .i64 0) (.slice pe e.xs.length ce)) (fun j q r => q.2 r)).mono (fun j _ q => q.1)
end Go.Proofs.YtblkhlhhlalbkaaGreatDoor
