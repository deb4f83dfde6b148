/- What Same of package expr answers: whether two expressions are equal. Conditions: lists within the reach. -/
import Derived.Test.YtekapdpfbkdflaaGreatDoorExAsm
namespace Go.Proofs.YtekapdpfbkdflaaGreatDoor
open Go.RowKit Go.Lib Go.Sort
set_option linter.unusedVariables false
set_option maxRecDepth 20000

theorem text_eq {s t : ByteArray} (h : s.data.toList = t.data.toList) : s = t := by
  obtain ⟨⟨a⟩⟩ := s
  obtain ⟨⟨b⟩⟩ := t
  simpa using h
/-- No expression within has more than three operands. -/
def A3 : Nat → Ex → Prop
  | 0, _ => True
  | n + 1, e => e.xs.length ≤ 3 ∧ ∀ z ∈ e.xs, A3 n z
def SameOk (m : Nat) : Prop := ∀ (w : World) (x y : Ex) (px py : Option Addr) (cx cy : Nat), A3 m x → EAt w (fun _ => True) m x px → EAt w (fun _ => True) m y py →
  Calls Tryz.prog 12 #[.agg #[.int .i64 x.k, .int .i64 x.op, .int .i64 x.v.k, .int .i64 x.v.n, .string x.v.s, .string ⟨x.t.toArray⟩, .string ⟨x.n.toArray⟩, .int .i64 0, .int .i64 0, .slice px x.xs.length cx], .agg #[.int .i64 y.k, .int .i64 y.op, .int .i64 y.v.k, .int .i64 y.v.n, .string y.v.s, .string ⟨y.t.toArray⟩, .string ⟨y.n.toArray⟩, .int .i64 0, .int .i64 0, .slice py y.xs.length cy]] w fun e w' => Below w.heap.size w w' ∧ ∃ r, e = .returned (.bool r) ∧ Hid (r = true ↔ x = y)
/-- A row of expressions. -/
def RowE (w : World) (m : Nat) (p : Option Addr) (xs : List Ex) : Prop := xs = [] ∨ ∃ b off, p = some ⟨b, off, none⟩ ∧ ∀ i (h : i < xs.length), ∃ q c, XC w b (off + i * 10) xs[i] q c ∧ EAt w (fun _ => True) m xs[i] q
theorem RowE.below {w w' : World} {m : Nat} {p : Option Addr} {xs : List Ex} (h : RowE w m p xs) (B : Below w.heap.size w w') : RowE w' m p xs := by
  rcases h with h | ⟨b, off, hp, hc⟩
  · exact Or.inl h
  · refine Or.inr ⟨b, off, hp, fun i hi => ?_⟩
    obtain ⟨q, c, h1, h2⟩ := hc i hi
    exact ⟨q, c, h1.chg (F := fun _ => False) (Chg.of_below B) id, h2.chg (G := fun _ => False) (Chg.of_below B) (fun _ _ q => q)⟩
theorem RowE.at {w : World} {m : Nat} {p : Option Addr} {xs : List Ex} (h : RowE w m p xs) {i : Nat} (hi : i < xs.length) : ∃ b off q c, p = some ⟨b, off, none⟩ ∧ XC w b (off + i * 10) xs[i] q c ∧ EAt w (fun _ => True) m xs[i] q := by
  rcases h with h | ⟨b, off, hp, hc⟩
  · subst h; simp at hi
  · obtain ⟨q, c, h1, h2⟩ := hc i hi
    exact ⟨b, off, q, c, hp, h1, h2⟩
set_option maxHeartbeats 8000000 in
theorem equal_any (m : Nat) (w : World) (xs ys : List Ex) (px py : Option Addr) (cx cy : Nat) (hx : RowE w m px xs) (hy : RowE w m py ys) (hlen : xs.length ≤ 140737488351232) (hA : ∀ z ∈ xs, A3 m z) (hS : xs ≠ [] → SameOk m) :
    Calls Tryz.prog 23 #[.slice px xs.length cx, .slice py ys.length cy, .func (.func 12) #[] #[]] w fun e w' => Below w.heap.size w w' ∧ ∃ r, e = .returned (.bool r) ∧ Hid (r = true ↔ xs = ys) := by
  by_cases hl : xs.length = ys.length
  · have HX := hid hx
    have HY := hid hy
    have HS := hid hS
    have HL := hid hl
    have HAA := hid hA
    have hli : ((ys.length : Int) = (xs.length : Int)) := by omega
    rw [← hl]
    clear hx hy hS hl hli hA
    go_enter Tryz.func23, Tryz.ntmps23
    go_wp2_with fail
    go_loopw [17] (fun i wr => ∃ k : Nat, k ≤ xs.length ∧ i = .int .i64 (k : Int) ∧ Below w.heap.size w wr ∧ ∀ j, j < k → xs[j]? = ys[j]?) (fun i _ => xs.length - (RowKit.intOf i).toNat)
    case atStart => exact ⟨0, Nat.zero_le _, rfl, Below.refl _ _, fun j h => absurd h (Nat.not_lt_zero _)⟩
    case round =>
      obtain ⟨k, hk, rfl, hbw, hno⟩ := hrel
      have HB := hid hbw
      have HN := hid hno
      have hsz := hbw.size
      clear hbw hno
      by_cases hkx : k < xs.length
      · have hky : k < ys.length := by have := HL.out; omega
        obtain ⟨bx, ox, qx, ccx, rfl, X, EX⟩ := (HX.out.below HB.out).at hkx
        obtain ⟨by', oy, qy, ccy, rfl, Y, EY⟩ := (HY.out.below HB.out).at hky
        have hbx : bx < wr.heap.size := cell_lt X.1
        have hby : by' < wr.heap.size := cell_lt Y.1
        have hbx1 : bx < wr.heap.size + 1 := by omega
        have hby1 : by' < wr.heap.size + 1 := by omega
        have HEX := hid EX
        have HEY := hid EY
        have hkI : (k : Int) < (xs.length : Int) := by omega
        have hk0 : (0 : Int) ≤ (k : Int) := by omega
        obtain ⟨x0, x1, x2, x3, x4, x5, x6, x7, x8, x9⟩ := X
        obtain ⟨y0, y1, y2, y3, y4, y5, y6, y7, y8, y9⟩ := Y
        have HXK : Hid (xs[k]? = some xs[k]) := List.getElem?_eq_getElem hkx
        have HA3 := hid (HAA.out xs[k] (List.getElem_mem _))
        have HSX := hid (HS.out (fun h => by rw [h] at hkx; simp at hkx))
        have HYK : Hid (ys[k]? = some ys[k]) := List.getElem?_eq_getElem hky
        generalize xs[k] = x at *
        generalize ys[k] = y at *
        clear EX EY
        have HCS := hid (fun w' (B : Below wr.heap.size wr w') => HSX.out w' x y qx qy ccx ccy HA3.out (HEX.out.chg (G := fun _ => False) (Chg.of_below B) (fun _ _ q => q)) (HEY.out.chg (G := fun _ => False) (Chg.of_below B) (fun _ _ q => q)))
        have HAL := hid (fun (o1 o2 : Obj) => ((Below.refl wr.heap.size wr).alloc (Nat.le_refl _) o1).alloc (by simp) o2)
        go_wp2_with (first
          | (go_at_call 12; go_loud (with_reducible refine (HCS.out _ (HAL.out _ _)).mono ?_); rintro e2 w2 ⟨b2, r, rfl, HR⟩; have B2 := hid (HB.out.trans (((HAL.out _ _).trans (b2.mono (by simp; omega))).mono hsz)); clear b2; cases r)
          | fail)
        · go_ret
          refine ⟨B2.out, false, rfl, ?_⟩
          show false = true ↔ xs = ys
          refine ⟨fun h => (by cases h), fun h => ?_⟩
          have e : x = y := by
            have := HXK.out
            rw [h, HYK.out] at this
            exact (Option.some.inj this).symm
          exact HR.out.2 e
        · have hxy : x = y := HR.out.1 trivial
          go_roundw
          case rel => exact ⟨k + 1, by omega, by go_num, B2.out, fun j hj => by
            by_cases e : j = k
            · subst e; rw [HXK.out, HYK.out, hxy]
            · exact HN.out j (by omega)⟩
          case measure => simp [RowKit.intOf]; omega
      · have hkI : ¬ (k : Int) < (xs.length : Int) := by omega
        go_wp2_with fail
        go_ret
        refine ⟨HB.out, Or.inr ⟨rfl, ?_⟩⟩
        show xs = ys
        refine List.ext_getElem? (fun j => ?_)
        by_cases hj : j < k
        · exact HN.out j hj
        · rw [List.getElem?_eq_none (by omega), List.getElem?_eq_none (by have := HL.out; omega)]
  · have hne : ¬ (xs.length : Int) = (ys.length : Int) := by omega
    have HL := hid hl
    clear hx hy
    go_enter Tryz.func23, Tryz.ntmps23
    go_wp2_with fail
    all_goals go_ret
    all_goals refine ⟨Below.refl _ _, false, rfl, ?_⟩
    all_goals show false = true ↔ xs = ys
    all_goals exact ⟨fun h => (by cases h), fun h => absurd (congrArg List.length h) HL.out⟩
theorem eat_row {w : World} {m : Nat} {e : Ex} {p : Option Addr} (h : EAt w (fun _ => True) (m + 1) e p) : RowE w m p e.xs := by
  rcases h with h | ⟨b, off, hp, _, hc⟩
  · exact Or.inl h
  · exact Or.inr ⟨b, off, hp, hc⟩
set_option maxHeartbeats 16000000 in
theorem same_core (m : Nat) (w : World) (x y : Ex) (px py : Option Addr) (cx cy : Nat) (RX : RowE w m px x.xs) (RY : RowE w m py y.xs) (hlen : x.xs.length ≤ 140737488351232) (hA : ∀ z ∈ x.xs, A3 m z) (hS : x.xs ≠ [] → SameOk m) :
    Calls Tryz.prog 12 #[.agg #[.int .i64 x.k, .int .i64 x.op, .int .i64 x.v.k, .int .i64 x.v.n, .string x.v.s, .string ⟨x.t.toArray⟩, .string ⟨x.n.toArray⟩, .int .i64 0, .int .i64 0, .slice px x.xs.length cx], .agg #[.int .i64 y.k, .int .i64 y.op, .int .i64 y.v.k, .int .i64 y.v.n, .string y.v.s, .string ⟨y.t.toArray⟩, .string ⟨y.n.toArray⟩, .int .i64 0, .int .i64 0, .slice py y.xs.length cy]] w fun e w' => Below w.heap.size w w' ∧ ∃ r, e = .returned (.bool r) ∧ Hid (r = true ↔ x = y) := by
  have HE := hid (fun w' (B : Below w.heap.size w w') => equal_any m w' x.xs y.xs px py cx cy (RX.below B) (RY.below B) hlen hA hS)
  clear RX RY hS hA
  go_enter Tryz.func12, Tryz.ntmps12
  go_wp2_with (first
    | (go_at_call 23; go_loud (with_reducible refine (HE.out _ (((Below.refl w.heap.size w).alloc (Nat.le_refl _) _).alloc (by simp) _)).mono ?_); rintro e2 w2 ⟨b2, r, rfl, HR⟩; have HB2 := hid b2; clear b2)
    | fail)
  all_goals go_ret
  · refine ⟨((Below.refl w.heap.size w).alloc (Nat.le_refl _) _).alloc (by simp) _ |>.trans (HB2.out.mono (by simp; omega)), r, rfl, ?_⟩
    show r = true ↔ x = y
    rw [show (r = true) = (x.xs = y.xs) from propext HR.out]
    rename_i h6 h5 h4 h3 h2 h1 h0
    constructor
    · intro h
      obtain ⟨xk, xo, ⟨a1, a2, a3⟩, xt, xn, xx⟩ := x
      obtain ⟨yk, yo, ⟨b1, b2, b3⟩, yt, yn, yy⟩ := y
      simp only at *
      have : a3 = b3 := by
        refine text_eq ?_
        rw [← ByteArray.toList_eq, ← ByteArray.toList_eq]
        exact h2
      simp_all
    · rintro rfl; rfl
  all_goals
    refine ⟨((Below.refl w.heap.size w).alloc (Nat.le_refl _) _).alloc (by simp) _, false, rfl, ?_⟩
    show false = true ↔ x = y
    refine ⟨fun h => (by cases h), fun h => ?_⟩
    subst h
    simp_all
theorem same_all : ∀ m, SameOk m
  | 0 => fun w x y px py cx cy hA hx hy => same_core 0 w x y px py cx cy (Or.inl hx) (Or.inl hy) (by rw [show x.xs = [] from hx]; simp) (fun z hz => trivial) (fun h => absurd hx h)
  | m + 1 => fun w x y px py cx cy hA hx hy => same_core m w x y px py cx cy (eat_row hx) (eat_row hy) (by have := hA.1; omega) hA.2 (fun _ => same_all m)
end Go.Proofs.YtekapdpfbkdflaaGreatDoor
