/- What Same of package expr answers: whether two expressions are equal. Conditions: lists within the reach. Plain mathematics of expressions: what three digits with an operator between are read as, and how they are written; the law's own two texts. No program is named here. No conditions. -/
import Derived.Test.YtfhhigablibeoaaGreatDoorXH
import Derived.Test.YtfhhigablibeoaaGreatDoorExPrP
import Derived.KernelRfl
namespace Go.Proofs.YtfhhigablibeoaaGreatDoor
open Go.RowKit Go.Lib Go.Sort
set_option linter.unusedVariables false
set_option maxRecDepth 20000

theorem text_eq {s t : ByteArray} (h : s.data.toList = t.data.toList) : s = t := by
  obtain ⟨⟨a⟩⟩ := s
  obtain ⟨⟨b⟩⟩ := t
  simpa using h
/-- No expression within has more than three operands. -/
def A3 : Nat → Ex → Prop
  | 0, _ => True
  | n + 1, e => e.xs.length ≤ 3 ∧ ∀ z ∈ e.xs, A3 n z
def SameOk (m : Nat) : Prop := ∀ (w : World) (x y : Ex) (px py : Option Addr) (cx cy : Nat), A3 m x → EAt w (fun _ => True) m x px → EAt w (fun _ => True) m y py →
  Calls Tryz.prog 12 #[.agg #[.int .i64 x.k, .int .i64 x.op, .int .i64 x.v.k, .int .i64 x.v.n, .string x.v.s, .string ⟨x.t.toArray⟩, .string ⟨x.n.toArray⟩, .int .i64 0, .int .i64 0, .slice px x.xs.length cx], .agg #[.int .i64 y.k, .int .i64 y.op, .int .i64 y.v.k, .int .i64 y.v.n, .string y.v.s, .string ⟨y.t.toArray⟩, .string ⟨y.n.toArray⟩, .int .i64 0, .int .i64 0, .slice py y.xs.length cy]] w fun e w' => Below w.heap.size w w' ∧ ∃ r, e = .returned (.bool r) ∧ Hid (r = true ↔ x = y)
/-- A row of expressions. -/
def RowE (w : World) (m : Nat) (p : Option Addr) (xs : List Ex) : Prop := xs = [] ∨ ∃ b off, p = some ⟨b, off, none⟩ ∧ ∀ i (h : i < xs.length), ∃ q c, XC w b (off + i * 10) xs[i] q c ∧ EAt w (fun _ => True) m xs[i] q
theorem RowE.below {w w' : World} {m : Nat} {p : Option Addr} {xs : List Ex} (h : RowE w m p xs) (B : Below w.heap.size w w') : RowE w' m p xs := by
  rcases h with h | ⟨b, off, hp, hc⟩
  · exact Or.inl h
  · refine Or.inr ⟨b, off, hp, fun i hi => ?_⟩
    obtain ⟨q, c, h1, h2⟩ := hc i hi
    exact ⟨q, c, h1.chg (F := fun _ => False) (Chg.of_below B) id, h2.chg (G := fun _ => False) (Chg.of_below B) (fun _ _ q => q)⟩
theorem RowE.at {w : World} {m : Nat} {p : Option Addr} {xs : List Ex} (h : RowE w m p xs) {i : Nat} (hi : i < xs.length) : ∃ b off q c, p = some ⟨b, off, none⟩ ∧ XC w b (off + i * 10) xs[i] q c ∧ EAt w (fun _ => True) m xs[i] q := by
  rcases h with h | ⟨b, off, hp, hc⟩
  · subst h; simp at hi
  · obtain ⟨q, c, h1, h2⟩ := hc i hi
    exact ⟨b, off, q, c, hp, h1, h2⟩
set_option maxHeartbeats 8000000 in
theorem equal_any (m : Nat) (w : World) (xs ys : List Ex) (px py : Option Addr) (cx cy : Nat) (hx : RowE w m px xs) (hy : RowE w m py ys) (hlen : xs.length ≤ 140737488351232) (hA : ∀ z ∈ xs, A3 m z) (hS : xs ≠ [] → SameOk m) :
    Calls Tryz.prog 23 #[.slice px xs.length cx, .slice py ys.length cy, .func (.func 12) #[] #[]] w fun e w' => Below w.heap.size w w' ∧ ∃ r, e = .returned (.bool r) ∧ Hid (r = true ↔ xs = ys) := by
  by_cases hl : xs.length = ys.length
  · have HX := hid hx
    have HY := hid hy
    have HS := hid hS
    have HL := hid hl
    have HAA := hid hA
    have hli : ((ys.length : Int) = (xs.length : Int)) := by omega
    rw [← hl]
    clear hx hy hS hl hli hA
    go_enter Tryz.func23, Tryz.ntmps23
    go_wp2_with fail
    go_loopw [17] (fun i wr => ∃ k : Nat, k ≤ xs.length ∧ i = .int .i64 (k : Int) ∧ Below w.heap.size w wr ∧ ∀ j, j < k → xs[j]? = ys[j]?) (fun i _ => xs.length - (RowKit.intOf i).toNat)
    case atStart => exact ⟨0, Nat.zero_le _, rfl, Below.refl _ _, fun j h => absurd h (Nat.not_lt_zero _)⟩
    case round =>
      obtain ⟨k, hk, rfl, hbw, hno⟩ := hrel
      have HB := hid hbw
      have HN := hid hno
      have hsz := hbw.size
      clear hbw hno
      by_cases hkx : k < xs.length
      · have hky : k < ys.length := by have := HL.out; omega
        obtain ⟨bx, ox, qx, ccx, rfl, X, EX⟩ := (HX.out.below HB.out).at hkx
        obtain ⟨by', oy, qy, ccy, rfl, Y, EY⟩ := (HY.out.below HB.out).at hky
        have hbx : bx < wr.heap.size := cell_lt X.1
        have hby : by' < wr.heap.size := cell_lt Y.1
        have hbx1 : bx < wr.heap.size + 1 := by omega
        have hby1 : by' < wr.heap.size + 1 := by omega
        have HEX := hid EX
        have HEY := hid EY
        have hkI : (k : Int) < (xs.length : Int) := by omega
        have hk0 : (0 : Int) ≤ (k : Int) := by omega
        obtain ⟨x0, x1, x2, x3, x4, x5, x6, x7, x8, x9⟩ := X
        obtain ⟨y0, y1, y2, y3, y4, y5, y6, y7, y8, y9⟩ := Y
        have HXK : Hid (xs[k]? = some xs[k]) := List.getElem?_eq_getElem hkx
        have HA3 := hid (HAA.out xs[k] (List.getElem_mem _))
        have HSX := hid (HS.out (fun h => by rw [h] at hkx; simp at hkx))
        have HYK : Hid (ys[k]? = some ys[k]) := List.getElem?_eq_getElem hky
        generalize xs[k] = x at *
        generalize ys[k] = y at *
        clear EX EY
        have HCS := hid (fun w' (B : Below wr.heap.size wr w') => HSX.out w' x y qx qy ccx ccy HA3.out (HEX.out.chg (G := fun _ => False) (Chg.of_below B) (fun _ _ q => q)) (HEY.out.chg (G := fun _ => False) (Chg.of_below B) (fun _ _ q => q)))
        have HAL := hid (fun (o1 o2 : Obj) => ((Below.refl wr.heap.size wr).alloc (Nat.le_refl _) o1).alloc (by simp) o2)
        go_wp2_with (first
          | (go_at_call 12; go_loud (with_reducible refine (HCS.out _ (HAL.out _ _)).mono ?_); rintro e2 w2 ⟨b2, r, rfl, HR⟩; have B2 := hid (HB.out.trans (((HAL.out _ _).trans (b2.mono (by simp; omega))).mono hsz)); clear b2; cases r)
          | fail)
        · go_ret
          refine ⟨B2.out, false, rfl, ?_⟩
          show false = true ↔ xs = ys
          refine ⟨fun h => (by cases h), fun h => ?_⟩
          have e : x = y := by
            have := HXK.out
            rw [h, HYK.out] at this
            exact (Option.some.inj this).symm
          exact HR.out.2 e
        · have hxy : x = y := HR.out.1 trivial
          go_roundw
          case rel => exact ⟨k + 1, by omega, by go_num, B2.out, fun j hj => by
            by_cases e : j = k
            · subst e; rw [HXK.out, HYK.out, hxy]
            · exact HN.out j (by omega)⟩
          case measure => simp [RowKit.intOf]; omega
      · have hkI : ¬ (k : Int) < (xs.length : Int) := by omega
        go_wp2_with fail
        go_ret
        refine ⟨HB.out, Or.inr ⟨rfl, ?_⟩⟩
        show xs = ys
        refine List.ext_getElem? (fun j => ?_)
        by_cases hj : j < k
        · exact HN.out j hj
        · rw [List.getElem?_eq_none (by omega), List.getElem?_eq_none (by have := HL.out; omega)]
  · have hne : ¬ (xs.length : Int) = (ys.length : Int) := by omega
    have HL := hid hl
    clear hx hy
    go_enter Tryz.func23, Tryz.ntmps23
    go_wp2_with fail
    all_goals go_ret
    all_goals refine ⟨Below.refl _ _, false, rfl, ?_⟩
    all_goals show false = true ↔ xs = ys
    all_goals exact ⟨fun h => (by cases h), fun h => absurd (congrArg List.length h) HL.out⟩
theorem eat_row {w : World} {m : Nat} {e : Ex} {p : Option Addr} (h : EAt w (fun _ => True) (m + 1) e p) : RowE w m p e.xs := by
  rcases h with h | ⟨b, off, hp, _, hc⟩
  · exact Or.inl h
  · exact Or.inr ⟨b, off, hp, hc⟩
set_option maxHeartbeats 16000000 in
theorem same_core (m : Nat) (w : World) (x y : Ex) (px py : Option Addr) (cx cy : Nat) (RX : RowE w m px x.xs) (RY : RowE w m py y.xs) (hlen : x.xs.length ≤ 140737488351232) (hA : ∀ z ∈ x.xs, A3 m z) (hS : x.xs ≠ [] → SameOk m) :
    Calls Tryz.prog 12 #[.agg #[.int .i64 x.k, .int .i64 x.op, .int .i64 x.v.k, .int .i64 x.v.n, .string x.v.s, .string ⟨x.t.toArray⟩, .string ⟨x.n.toArray⟩, .int .i64 0, .int .i64 0, .slice px x.xs.length cx], .agg #[.int .i64 y.k, .int .i64 y.op, .int .i64 y.v.k, .int .i64 y.v.n, .string y.v.s, .string ⟨y.t.toArray⟩, .string ⟨y.n.toArray⟩, .int .i64 0, .int .i64 0, .slice py y.xs.length cy]] w fun e w' => Below w.heap.size w w' ∧ ∃ r, e = .returned (.bool r) ∧ Hid (r = true ↔ x = y) := by
  have HE := hid (fun w' (B : Below w.heap.size w w') => equal_any m w' x.xs y.xs px py cx cy (RX.below B) (RY.below B) hlen hA hS)
  clear RX RY hS hA
  go_enter Tryz.func12, Tryz.ntmps12
  go_wp2_with (first
    | (go_at_call 23; go_loud (with_reducible refine (HE.out _ (((Below.refl w.heap.size w).alloc (Nat.le_refl _) _).alloc (by simp) _)).mono ?_); rintro e2 w2 ⟨b2, r, rfl, HR⟩; have HB2 := hid b2; clear b2)
    | fail)
  all_goals go_ret
  · refine ⟨((Below.refl w.heap.size w).alloc (Nat.le_refl _) _).alloc (by simp) _ |>.trans (HB2.out.mono (by simp; omega)), r, rfl, ?_⟩
    show r = true ↔ x = y
    rw [show (r = true) = (x.xs = y.xs) from propext HR.out]
    rename_i h6 h5 h4 h3 h2 h1 h0
    constructor
    · intro h
      obtain ⟨xk, xo, ⟨a1, a2, a3⟩, xt, xn, xx⟩ := x
      obtain ⟨yk, yo, ⟨b1, b2, b3⟩, yt, yn, yy⟩ := y
      simp only at *
      have : a3 = b3 := by
        refine text_eq ?_
        rw [← ByteArray.toList_eq, ← ByteArray.toList_eq]
        exact h2
      simp_all
    · rintro rfl; rfl
  all_goals
    refine ⟨((Below.refl w.heap.size w).alloc (Nat.le_refl _) _).alloc (by simp) _, false, rfl, ?_⟩
    show false = true ↔ x = y
    refine ⟨fun h => (by cases h), fun h => ?_⟩
    subst h
    simp_all
theorem same_all : ∀ m, SameOk m
  | 0 => fun w x y px py cx cy hA hx hy => same_core 0 w x y px py cx cy (Or.inl hx) (Or.inl hy) (by rw [show x.xs = [] from hx]; simp) (fun z hz => trivial) (fun h => absurd hx h)
  | m + 1 => fun w x y px py cx cy hA hx hy => same_core m w x y px py cx cy (eat_row hx) (eat_row hy) (by have := hA.1; omega) hA.2 (fun _ => same_all m)
end Go.Proofs.YtfhhigablibeoaaGreatDoor
namespace Go.Proofs.YtfhhigablibeoaaGreatDoor
open Go.Lib
set_option linter.unusedVariables false
set_option maxRecDepth 20000

/-! ### The law's own texts -/
def exA : List UInt8 := [40, 49, 32, 45, 32, 40, 50, 32, 45, 32, 51, 41, 41, 32, 61, 32, 52, 32, 120]
def exB : List UInt8 := [108, 101, 110, 103, 116, 104, 40, 97, 44, 32, 98, 41]
def exAT : Ts := [(⟨5, [40], 0⟩, 0), (⟨2, [], 1⟩, 1), (⟨5, [45], 0⟩, 3), (⟨5, [40], 0⟩, 5), (⟨2, [], 2⟩, 6), (⟨5, [45], 0⟩, 8), (⟨2, [], 3⟩, 10), (⟨5, [41], 0⟩, 11), (⟨5, [41], 0⟩, 12), (⟨5, [61], 0⟩, 14), (⟨2, [], 4⟩, 16), (⟨1, [120], 0⟩, 18)]
def exBT : Ts := [(⟨1, [108, 101, 110, 103, 116, 104], 0⟩, 0), (⟨5, [40], 0⟩, 6), (⟨1, [97], 0⟩, 7), (⟨5, [44], 0⟩, 8), (⟨1, [98], 0⟩, 10), (⟨5, [41], 0⟩, 11)]
theorem toks_exA : toksOf exA = .ok exAT := by kernel_rfl
theorem toks_exB : toksOf exB = .ok exBT := by kernel_rfl
def numE (n : Int) : Ex := litE ⟨2, n, ⟨#[]⟩⟩
def exE : Ex := mkE 4 5 [mkE 4 12 [numE 1, mkE 4 12 [numE 2, numE 3]], numE 4]
theorem read_exA : (lns 32).orr exAT = .ok (exE, [(⟨1, [120], 0⟩, 18)]) := by kernel_rfl
theorem read_exB : (lns 32).orr exBT = .error ([(⟨5, [44], 0⟩, 8), (⟨1, [98], 0⟩, 10), (⟨5, [41], 0⟩, 11)], 20) := by kernel_rfl
theorem print_exA : prE exE = [49, 32, 45, 32, 40, 50, 32, 45, 32, 51, 41, 32, 61, 32, 52] := by kernel_rfl

/-! ### Three digits -/
/-- The operators, as they are written in the law. -/
def sgn8 : List (List UInt8) := [[43], [45], [42], [47], [37], [124, 124], [97, 110, 100], [111, 114]]
structure Sg where
  txt : List UInt8
  tk : Tk
  op : Int
def sgs : List Sg := [⟨[43], ⟨5, [43], 0⟩, 11⟩, ⟨[45], ⟨5, [45], 0⟩, 12⟩, ⟨[42], ⟨5, [42], 0⟩, 13⟩, ⟨[47], ⟨5, [47], 0⟩, 14⟩, ⟨[37], ⟨5, [37], 0⟩, 15⟩, ⟨[124, 124], ⟨5, [124, 124], 0⟩, 16⟩, ⟨[97, 110, 100], ⟨1, [97, 110, 100], 0⟩, 4⟩, ⟨[111, 114], ⟨1, [111, 114], 0⟩, 3⟩]
theorem sgs_txt : sgs.map (·.txt) = sgn8 := rfl
/-- The three texts. -/
def tL (x y z : UInt8) (s : List UInt8) : List UInt8 := x :: 32 :: (s ++ 32 :: y :: 32 :: (s ++ [32, z]))
def tM (x y z : UInt8) (s : List UInt8) : List UInt8 := 40 :: x :: 32 :: (s ++ 32 :: y :: 41 :: 32 :: (s ++ [32, z]))
def tR (x y z : UInt8) (s : List UInt8) : List UInt8 := x :: 32 :: (s ++ 32 :: 40 :: y :: 32 :: (s ++ [32, z, 41]))
/-- A digit. -/
def Dg (c : UInt8) : Prop := 48 ≤ c.toNat ∧ c.toNat ≤ 57
def vD (c : UInt8) : Int := ((c.toNat - 48 : Nat) : Int)
theorem dg_dig {c : UInt8} (h : Dg c) : dig (bi c) = true := by
  obtain ⟨h0, h1⟩ := h
  unfold dig bi
  simp
  omega
theorem dg_q {c : UInt8} (h : Dg c) : (bi c == 39) = false := by
  obtain ⟨h0, h1⟩ := h
  unfold bi
  rw [beq_eq_false_iff_ne]
  omega
theorem dg_b {c : UInt8} (h : Dg c) : blk (bi c) = false := by
  obtain ⟨h0, h1⟩ := h
  unfold blk bi
  simp only [Bool.or_eq_false_iff, beq_eq_false_iff_ne]
  omega
theorem dg_r {c : UInt8} (h : Dg c) (r : List UInt8) : isR (c :: r) = false := by
  obtain ⟨h0, h1⟩ := h
  cases r with
  | nil => rfl
  | cons d r =>
    have : (bi c == 45) = false := by unfold bi; rw [beq_eq_false_iff_ne]; omega
    show (bi c == 45 && bi d == 45) = false
    rw [this]
    rfl
/-- A digit, and no word's letter behind. -/
theorem first_dg {c : UInt8} (h : Dg c) (r : List UInt8) (hr : ∀ d s, r = d :: s → isD d = false) : first1 (c :: r) = some (⟨2, [], vD c⟩, 1) := by
  have hw : cntW isD (c :: r) = 1 := by
    unfold cntW
    rw [if_pos (show isD c = true from dg_dig h)]
    cases r with
    | nil => rfl
    | cons d s => unfold cntW; rw [if_neg (by rw [hr d s rfl]; simp)]
  unfold first1
  simp only [dg_q h, dg_dig h, hw, Bool.false_eq_true, if_false, if_true]
  have hv : numD (List.take 1 (c :: r)) = some (vD c) := by
    have hc := h.2
    show numD [c] = _
    have h1 : valD 0 [c] = c.toNat - 48 := by
      show 10 * 0 + (c.toNat - 48) = c.toNat - 48
      omega
    unfold numD vD
    rw [h1, if_pos (by omega)]
  rw [hv]
  rfl
theorem toks_dg {f : Nat} {c : UInt8} (h : Dg c) (r : List UInt8) (hr : ∀ d s, r = d :: s → isD d = false) (i : Nat) : toks (f + 1) (c :: r) i = (toks f r (i + 1)).map ((⟨2, [], vD c⟩, i) :: ·) := by
  rw [toks, dg_b h, if_neg (by simp), dg_r h, if_neg (by simp), first_dg h r hr]
  rfl
theorem toks_sp (f : Nat) (r : List UInt8) (i : Nat) : toks (f + 1) (32 :: r) i = toks f r (i + 1) := rfl
theorem toks_op (f : Nat) (r : List UInt8) (i : Nat) : toks (f + 1) (40 :: r) i = (toks f r (i + 1)).map ((⟨5, [40], 0⟩, i) :: ·) := by
  cases r <;> rfl
theorem toks_cl (f : Nat) (r : List UInt8) (i : Nat) : toks (f + 1) (41 :: r) i = (toks f r (i + 1)).map ((⟨5, [41], 0⟩, i) :: ·) := by
  cases r <;> rfl
theorem toks_nil (f i : Nat) : toks f [] i = .ok [] := by cases f <;> rfl
theorem toks_sg {g : Sg} (hg : g ∈ sgs) (f : Nat) (r : List UInt8) (i : Nat) : toks (f + 1) (g.txt ++ 32 :: r) i = (toks f (32 :: r) (i + g.txt.length)).map ((g.tk, i) :: ·) := by
  simp only [sgs, List.mem_cons, List.not_mem_nil, or_false] at hg
  rcases hg with rfl | rfl | rfl | rfl | rfl | rfl | rfl | rfl <;> rfl
theorem isD_sp : isD 32 = false := rfl
theorem isD_41 : isD 41 = false := rfl
theorem sgs_len {g : Sg} (hg : g ∈ sgs) : g.txt.length ≤ 3 := by
  simp only [sgs, List.mem_cons, List.not_mem_nil, or_false] at hg
  rcases hg with rfl | rfl | rfl | rfl | rfl | rfl | rfl | rfl <;> decide
theorem toks_tL {x y z : UInt8} (hx : Dg x) (hy : Dg y) (hz : Dg z) {g : Sg} (hg : g ∈ sgs) : ∃ a b c d, toksOf (tL x y z g.txt) = .ok [(⟨2, [], vD x⟩, 0), (g.tk, a), (⟨2, [], vD y⟩, b), (g.tk, c), (⟨2, [], vD z⟩, d)] := by
  refine ⟨0 + 1 + 1, 0 + 1 + 1 + g.txt.length + 1, 0 + 1 + 1 + g.txt.length + 1 + 1 + 1, 0 + 1 + 1 + g.txt.length + 1 + 1 + 1 + g.txt.length + 1, ?_⟩
  unfold toksOf
  rw [toks_fuel _ 100 _ _ (by omega) (by have := sgs_len hg; simp [tL]; omega)]
  unfold tL
  rw [toks_dg hx _ (by rintro d s ⟨⟩; rfl), toks_sp, toks_sg hg, toks_sp, toks_dg hy _ (by rintro d s ⟨⟩; rfl), toks_sp, toks_sg hg, toks_sp, toks_dg hz _ (by rintro d s ⟨⟩), toks_nil]
  rfl
theorem toks_tM {x y z : UInt8} (hx : Dg x) (hy : Dg y) (hz : Dg z) {g : Sg} (hg : g ∈ sgs) : ∃ a b c d e f, toksOf (tM x y z g.txt) = .ok [(⟨5, [40], 0⟩, 0), (⟨2, [], vD x⟩, a), (g.tk, b), (⟨2, [], vD y⟩, c), (⟨5, [41], 0⟩, d), (g.tk, e), (⟨2, [], vD z⟩, f)] := by
  refine ⟨0 + 1, 0 + 1 + 1 + 1, 0 + 1 + 1 + 1 + g.txt.length + 1, 0 + 1 + 1 + 1 + g.txt.length + 1 + 1, 0 + 1 + 1 + 1 + g.txt.length + 1 + 1 + 1 + 1, 0 + 1 + 1 + 1 + g.txt.length + 1 + 1 + 1 + 1 + g.txt.length + 1, ?_⟩
  unfold toksOf
  rw [toks_fuel _ 100 _ _ (by omega) (by have := sgs_len hg; simp [tM]; omega)]
  unfold tM
  rw [toks_op, toks_dg hx _ (by rintro d s ⟨⟩; rfl), toks_sp, toks_sg hg, toks_sp, toks_dg hy _ (by rintro d s ⟨⟩; rfl), toks_cl, toks_sp, toks_sg hg, toks_sp, toks_dg hz _ (by rintro d s ⟨⟩), toks_nil]
  rfl
theorem toks_tR {x y z : UInt8} (hx : Dg x) (hy : Dg y) (hz : Dg z) {g : Sg} (hg : g ∈ sgs) : ∃ a b c d e f, toksOf (tR x y z g.txt) = .ok [(⟨2, [], vD x⟩, 0), (g.tk, a), (⟨5, [40], 0⟩, b), (⟨2, [], vD y⟩, c), (g.tk, d), (⟨2, [], vD z⟩, e), (⟨5, [41], 0⟩, f)] := by
  refine ⟨0 + 1 + 1, 0 + 1 + 1 + g.txt.length + 1, 0 + 1 + 1 + g.txt.length + 1 + 1, 0 + 1 + 1 + g.txt.length + 1 + 1 + 1 + 1, 0 + 1 + 1 + g.txt.length + 1 + 1 + 1 + 1 + g.txt.length + 1, 0 + 1 + 1 + g.txt.length + 1 + 1 + 1 + 1 + g.txt.length + 1 + 1, ?_⟩
  unfold toksOf
  rw [toks_fuel _ 100 _ _ (by omega) (by have := sgs_len hg; simp [tR]; omega)]
  unfold tR
  rw [toks_dg hx _ (by rintro d s ⟨⟩; rfl), toks_sp, toks_sg hg, toks_sp, toks_op, toks_dg hy _ (by rintro d s ⟨⟩; rfl), toks_sp, toks_sg hg, toks_sp, toks_dg hz _ (by rintro d s ⟨⟩; rfl), toks_cl, toks_nil]
  rfl
def exL (op a b c : Int) : Ex := mkE 4 op [mkE 4 op [numE a, numE b], numE c]
def exR (op a b c : Int) : Ex := mkE 4 op [numE a, mkE 4 op [numE b, numE c]]
theorem read_tL {g : Sg} (hg : g ∈ sgs) (x y z : Int) (a b c d : Nat) : (lns 32).orr [(⟨2, [], x⟩, 0), (g.tk, a), (⟨2, [], y⟩, b), (g.tk, c), (⟨2, [], z⟩, d)] = .ok (exL g.op x y z, []) := by
  simp only [sgs, List.mem_cons, List.not_mem_nil, or_false] at hg
  rcases hg with rfl | rfl | rfl | rfl | rfl | rfl | rfl | rfl <;> kernel_rfl
theorem read_tM {g : Sg} (hg : g ∈ sgs) (x y z : Int) (a b c d e f : Nat) : (lns 32).orr [(⟨5, [40], 0⟩, 0), (⟨2, [], x⟩, a), (g.tk, b), (⟨2, [], y⟩, c), (⟨5, [41], 0⟩, d), (g.tk, e), (⟨2, [], z⟩, f)] = .ok (exL g.op x y z, []) := by
  simp only [sgs, List.mem_cons, List.not_mem_nil, or_false] at hg
  rcases hg with rfl | rfl | rfl | rfl | rfl | rfl | rfl | rfl <;> kernel_rfl
theorem read_tR {g : Sg} (hg : g ∈ sgs) (x y z : Int) (a b c d e f : Nat) : (lns 32).orr [(⟨2, [], x⟩, 0), (g.tk, a), (⟨5, [40], 0⟩, b), (⟨2, [], y⟩, c), (g.tk, d), (⟨2, [], z⟩, e), (⟨5, [41], 0⟩, f)] = .ok (exR g.op x y z, []) := by
  simp only [sgs, List.mem_cons, List.not_mem_nil, or_false] at hg
  rcases hg with rfl | rfl | rfl | rfl | rfl | rfl | rfl | rfl <;> kernel_rfl
theorem litV_num (n : Int) : litV ⟨2, n, ⟨#[]⟩⟩ = itoa n := rfl
theorem prE_num (n : Int) : prE (numE n) = itoa n := rfl
theorem prE_L {g : Sg} (hg : g ∈ sgs) (x y z : Int) : (prE (exR g.op x y z)).length = (prE (exL g.op x y z)).length + 2 := by
  simp only [sgs, List.mem_cons, List.not_mem_nil, or_false] at hg
  rcases hg with rfl | rfl | rfl | rfl | rfl | rfl | rfl | rfl
  · show (itoa x ++ 32 :: ([43] ++ 32 :: 40 :: (itoa y ++ 32 :: ([43] ++ 32 :: itoa z) ++ [41]))).length = ((itoa x ++ 32 :: ([43] ++ 32 :: itoa y)) ++ 32 :: ([43] ++ 32 :: itoa z)).length + 2
    simp; omega
  · show (itoa x ++ 32 :: ([45] ++ 32 :: 40 :: (itoa y ++ 32 :: ([45] ++ 32 :: itoa z) ++ [41]))).length = ((itoa x ++ 32 :: ([45] ++ 32 :: itoa y)) ++ 32 :: ([45] ++ 32 :: itoa z)).length + 2
    simp; omega
  · show (itoa x ++ 32 :: ([42] ++ 32 :: 40 :: (itoa y ++ 32 :: ([42] ++ 32 :: itoa z) ++ [41]))).length = ((itoa x ++ 32 :: ([42] ++ 32 :: itoa y)) ++ 32 :: ([42] ++ 32 :: itoa z)).length + 2
    simp; omega
  · show (itoa x ++ 32 :: ([47] ++ 32 :: 40 :: (itoa y ++ 32 :: ([47] ++ 32 :: itoa z) ++ [41]))).length = ((itoa x ++ 32 :: ([47] ++ 32 :: itoa y)) ++ 32 :: ([47] ++ 32 :: itoa z)).length + 2
    simp; omega
  · show (itoa x ++ 32 :: ([37] ++ 32 :: 40 :: (itoa y ++ 32 :: ([37] ++ 32 :: itoa z) ++ [41]))).length = ((itoa x ++ 32 :: ([37] ++ 32 :: itoa y)) ++ 32 :: ([37] ++ 32 :: itoa z)).length + 2
    simp; omega
  · show (itoa x ++ 32 :: ([124, 124] ++ 32 :: 40 :: (itoa y ++ 32 :: ([124, 124] ++ 32 :: itoa z) ++ [41]))).length = ((itoa x ++ 32 :: ([124, 124] ++ 32 :: itoa y)) ++ 32 :: ([124, 124] ++ 32 :: itoa z)).length + 2
    simp; omega
  · show (itoa x ++ 32 :: ([65, 78, 68] ++ 32 :: 40 :: (itoa y ++ 32 :: ([65, 78, 68] ++ 32 :: itoa z) ++ [41]))).length = ((itoa x ++ 32 :: ([65, 78, 68] ++ 32 :: itoa y)) ++ 32 :: ([65, 78, 68] ++ 32 :: itoa z)).length + 2
    simp; omega
  · show (itoa x ++ 32 :: ([79, 82] ++ 32 :: 40 :: (itoa y ++ 32 :: ([79, 82] ++ 32 :: itoa z) ++ [41]))).length = ((itoa x ++ 32 :: ([79, 82] ++ 32 :: itoa y)) ++ 32 :: ([79, 82] ++ 32 :: itoa z)).length + 2
    simp; omega
theorem exLR (op x y z : Int) : exL op x y z ≠ exR op x y z := by
  intro h
  have h1 : (exL op x y z).xs.map (·.k) = (exR op x y z).xs.map (·.k) := by rw [h]
  simp [exL, exR, mkE, numE, litE] at h1
end Go.Proofs.YtfhhigablibeoaaGreatDoor
