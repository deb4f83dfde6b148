/- The law ValueOrders returns true and writes nothing that was there. Conditions: the two values' and the rows' lengths are Go's; the rows take at most the reach. -/
import Derived.Test.YtlhknlbofcflcaaValSame
namespace Go.Proofs.Ytlhknlbofcflcaa
open Go.RowKit Go.Lib Go.Sort
set_option linter.unusedVariables false

theorem infoV : (Try.prog.info? 23).map (fun i => (i.zero, i.size, i.bytes)) = some (some (.agg #[.int .i64 0, .int .i64 0, .string ByteArray.empty]), 3, 32) := by kernel_rfl
theorem infoB : (Try.prog.info? 4).map (fun i => (i.zero, i.size, i.bytes)) = some (some (.bool false), 1, 1) := by kernel_rfl

theorem alloc_below (w : World) (o : Obj) : Below w.heap.size w (w.alloc o) := (Below.refl _ _).alloc (Nat.le_refl _) o

/-- A copy of a row of values, made by append onto an empty slice. -/
theorem copyV {ops : Array Oper} {rest : List Oper} {o : Oper} {a : Act} {Q : Exit → Act → World → Prop} (w0 : World) (g : Nat) (s x : Operand) (p : Option Addr) (xs : List Val) (c : Nat) (hgd : o.guard = none)
    (ho : o.op = .call { callee := .builtin .append, args := #[s, x], argTypes := #[24, 24] })
    (hg : g = w0.heap.size) (hs : a.eval s = .slice (some ⟨g, 0, none⟩) 0 0) (hx : a.eval x = .slice p xs.length c)
    (hp : p = none → xs.length = 0 ∧ c = 0) (rX : Row w0 p xs) (hb : xs.length * 32 ≤ 140737488351232)
    (h : ∀ p' c' w', Row w' p' xs → Below w0.heap.size w0 w' → wpList Try.prog ops Q rest (a.put o.dst (.slice p' xs.length c')) w') :
    wpList Try.prog ops Q (o :: rest) a (w0.alloc (.cells #[] 23)) := by
  obtain ⟨iV, hiV, hz0, hz1, hz2⟩ := info_parts infoV
  subst hg
  have own := World.ownsRow_made (base := w0.heap.size) (e := 23) (size := 3) w0 #[] 0 (Nat.le_refl _) (Nat.zero_le _) rfl
  refine wpList_append_copy hgd s x 24 ho w0.heap.size 23 iV _ 3 32 Try.underlying24 hiV hz0 hz1 hz2 rfl (by decide) _ hs own p xs.length c (cellsV xs) hx (cellsV_length xs) hp (rX.below (alloc_below w0 _)).cells (cellsV_one xs) (by unfold maxLen; omega) (by omega) (by simp) ?_
  intro v' w' h1 h2
  obtain ⟨_, p', c', rfl, _, r⟩ := Row.of_owns h1
  exact h p' c' w' r ((alloc_below w0 _).trans ((Below.refl w0.heap.size _).grown h2 (by simp) (fun k hk => by simp [Value.ownBlock] at hk; omega)))

/-- A copy of a row of bools, likewise. -/
theorem copyB {ops : Array Oper} {rest : List Oper} {o : Oper} {a : Act} {Q : Exit → Act → World → Prop} (w0 : World) (g : Nat) (s x : Operand) (p : Option Addr) (xs : List Bool) (c : Nat) (hgd : o.guard = none)
    (ho : o.op = .call { callee := .builtin .append, args := #[s, x], argTypes := #[25, 25] })
    (hg : g = w0.heap.size) (hs : a.eval s = .slice (some ⟨g, 0, none⟩) 0 0) (hx : a.eval x = .slice p xs.length c)
    (hp : p = none → xs.length = 0 ∧ c = 0) (rX : Bits w0 p xs) (hb : xs.length ≤ 140737488351232)
    (h : ∀ p' c' w', Bits w' p' xs → Below w0.heap.size w0 w' → wpList Try.prog ops Q rest (a.put o.dst (.slice p' xs.length c')) w') :
    wpList Try.prog ops Q (o :: rest) a (w0.alloc (.cells #[] 4)) := by
  obtain ⟨iV, hiV, hz0, hz1, hz2⟩ := info_parts infoB
  subst hg
  have own := World.ownsRow_made (base := w0.heap.size) (e := 4) (size := 1) w0 #[] 0 (Nat.le_refl _) (Nat.zero_le _) rfl
  refine wpList_append_copy hgd s x 25 ho w0.heap.size 4 iV _ 1 1 Try.underlying25 hiV hz0 hz1 hz2 rfl (by decide) _ hs own p xs.length c (xs.map .bool) hx (by simp) hp (rX.below (alloc_below w0 _)).cells (fun u hu => by obtain ⟨y, _, rfl⟩ := List.mem_map.1 hu; rfl) (by unfold maxLen; omega) (by omega) (by simp) ?_
  intro v' w' h1 h2
  obtain ⟨_, p', c', rfl, _, r⟩ := Bits.of_owns h1
  exact h p' c' w' r ((alloc_below w0 _).trans ((Below.refl w0.heap.size _).grown h2 (by simp) (fun k hk => by simp [Value.ownBlock] at hk; omega)))

theorem box2 (w : World) (x1 x2 x3 y1 y2 y3 : Value) (t : TypeId) :
    ((w.alloc (.cells #[x1, x2, x3] t)).alloc (.cells #[y1, y2, y3] t)).cell? ⟨w.heap.size, 0, none⟩ = some x1 ∧ ((w.alloc (.cells #[x1, x2, x3] t)).alloc (.cells #[y1, y2, y3] t)).cell? ⟨w.heap.size, 1, none⟩ = some x2 ∧
    ((w.alloc (.cells #[x1, x2, x3] t)).alloc (.cells #[y1, y2, y3] t)).cell? ⟨w.heap.size, 2, none⟩ = some x3 ∧ ((w.alloc (.cells #[x1, x2, x3] t)).alloc (.cells #[y1, y2, y3] t)).cell? ⟨w.heap.size + 1, 0, none⟩ = some y1 ∧
    ((w.alloc (.cells #[x1, x2, x3] t)).alloc (.cells #[y1, y2, y3] t)).cell? ⟨w.heap.size + 1, 1, none⟩ = some y2 ∧ ((w.alloc (.cells #[x1, x2, x3] t)).alloc (.cells #[y1, y2, y3] t)).cell? ⟨w.heap.size + 1, 2, none⟩ = some y3 := by
  refine ⟨?_, ?_, ?_, ?_, ?_, ?_⟩ <;> go_simp

set_option maxHeartbeats 2000000 in
theorem orders_walk (a b : Val) (xs ys : List Val) (ds : List Bool) (pa pb pd : Option Addr) (ca cb cd : Nat) (w : World)
    (tA : a.s.size ≤ maxLen) (tB : b.s.size ≤ maxLen) (sA : ∀ v ∈ xs, v.s.size ≤ maxLen) (sB : ∀ v ∈ ys, v.s.size ≤ maxLen)
    (hA : xs.length * 32 ≤ 140737488351232) (hB : ys.length * 32 ≤ 140737488351232) (hD : ds.length ≤ 140737488351232)
    (nA : pa = none → xs.length = 0 ∧ ca = 0) (nB : pb = none → ys.length = 0 ∧ cb = 0) (nD : pd = none → ds.length = 0 ∧ cd = 0)
    (rA : Row w pa xs) (rB : Row w pb ys) (rD : Bits w pd ds) :
    Calls Try.prog 3 #[a.v, b.v, .slice pa xs.length ca, .slice pb ys.length cb, .slice pd ds.length cd] w fun e w' => e = .returned (.bool true) ∧ Below w.heap.size w w' := by
  obtain ⟨k1, n1, s1⟩ := a
  obtain ⟨k2, n2, s2⟩ := b
  unfold Val.v
  have HnA : Hid (pa = none → xs.length = 0 ∧ ca = 0) := nA
  have HnB : Hid (pb = none → ys.length = 0 ∧ cb = 0) := nB
  have HnD : Hid (pd = none → ds.length = 0 ∧ cd = 0) := nD
  have HsA : Hid (∀ v ∈ xs, v.s.size ≤ maxLen) := sA
  have HsB : Hid (∀ v ∈ ys, v.s.size ≤ maxLen) := sB
  clear nA nB nD sA sB
  go_enter Try.func3, Try.ntmps3
  go_wp2_with (first
    | (at_builtin; refine copyV ((w.alloc _).alloc _) _ _ _ pa xs ca rfl rfl (by simp) rfl rfl HnA.out (rA.below ((alloc_below _ _).trans ((alloc_below _ _).mono (by simp)))) hA ?_; intro p1 c1 w1 r1 b1
       have B1 : Below w.heap.size w w1 := ((alloc_below _ _).trans ((alloc_below _ _).mono (by simp))).trans (b1.mono (by simp; omega)))
    | (at_builtin; refine copyV w1 _ _ _ pb ys cb rfl rfl rfl rfl rfl HnB.out (rB.below B1) hB ?_; intro p2 c2 w2 r2 b2
       have B2 : Below w.heap.size w w2 := B1.trans (b2.mono B1.size))
    | (at_builtin; refine copyB w2 _ _ _ pd ds cd rfl rfl rfl rfl rfl HnD.out (rD.below B2) hD ?_; intro p3 c3 w3 r3 b3
       have B3 : Below w.heap.size w w3 := B2.trans (b3.mono B2.size)))
  have f : ∀ {q : Addr} {v : Value}, ((w.alloc (.cells #[.int .i64 k1, .int .i64 n1, .string s1] 23)).alloc (.cells #[.int .i64 k2, .int .i64 n2, .string s2] 23)).cell? q = some v → w3.cell? q = some v :=
    fun h => below_cell b3 (below_cell b2 (below_cell b1 h))
  obtain ⟨x0, x1, x2, y0, y1, y2⟩ := box2 w (.int .i64 k1) (.int .i64 n1) (.string s1) (.int .i64 k2) (.int .i64 n2) (.string s2) 23
  have g0 := cell_regrown (f x0)
  have g1 := cell_regrown (f x1)
  have g2 := cell_regrown (f x2)
  have g3 := cell_regrown (f y0)
  have g4 := cell_regrown (f y1)
  have g5 := cell_regrown (f y2)
  have q1 := (r1.below b2).below b3
  have q2 := r2.below b3
  have lA : xs.length ≤ maxLen := by unfold maxLen; omega
  have lB : ys.length ≤ maxLen := by unfold maxLen; omega
  have lD : ds.length ≤ maxLen := by unfold maxLen; omega
  have qA := rA.below B3
  have qB := rB.below B3
  have qD := rD.below B3
  have C1 : Hid (∀ d os, Calls Try.prog 4 #[.agg #[.int .i64 k1, .int .i64 n1, .string s1], .agg #[.int .i64 k2, .int .i64 n2, .string s2]] (grow (redrawn w3 d) os) fun e w'' => e = .returned (.int .i64 (cmpV ⟨k1, n1, s1⟩ ⟨k2, n2, s2⟩)) ∧ ∃ p : Regrown, w'' = grow (redrawn w3 p.d) p.os) :=
    fun d os => Calls.regrown_of (compare_any ⟨k1, n1, s1⟩ ⟨k2, n2, s2⟩ _)
  have C2 : Hid (∀ d os, Calls Try.prog 5 #[.agg #[.int .i64 k1, .int .i64 n1, .string s1], .agg #[.int .i64 k2, .int .i64 n2, .string s2]] (grow (redrawn w3 d) os) fun e w'' => e = .returned (.int .i64 (cmpV ⟨k1, n1, s1⟩ ⟨k2, n2, s2⟩)) ∧ ∃ p : Regrown, w'' = grow (redrawn w3 p.d) p.os) :=
    fun d os => Calls.regrown_of (refCompare_any ⟨k1, n1, s1⟩ ⟨k2, n2, s2⟩ _ tA tB)
  have C3 : Hid (∀ d os, Calls Try.prog 6 #[.slice p1 xs.length c1, .slice p2 ys.length c2, .slice p3 ds.length c3] (grow (redrawn w3 d) os) fun e w'' => e = .returned (.int .i64 (cmpRow xs ys ds)) ∧ ∃ p : Regrown, w'' = grow (redrawn w3 p.d) p.os) :=
    fun d os => Calls.regrown_of (rows_any xs ys ds p1 p2 p3 c1 c2 c3 _ lA lB lD (q1.below (below_regrown w3 d os)) (q2.below (below_regrown w3 d os)) (r3.below (below_regrown w3 d os)))
  have C4 : Hid (∀ d os, Calls Try.prog 7 #[.slice pa xs.length ca, .slice pb ys.length cb, .slice pd ds.length cd] (grow (redrawn w3 d) os) fun e w'' => e = .returned (.int .i64 (cmpRow xs ys ds)) ∧ ∃ p : Regrown, w'' = grow (redrawn w3 p.d) p.os) :=
    fun d os => Calls.regrown_of (refRows_any xs ys ds pa pb pd ca cb cd _ lA lB lD HsA.out HsB.out (qA.below (below_regrown w3 d os)) (qB.below (below_regrown w3 d os)) (qD.below (below_regrown w3 d os)))
  have C5 : Hid (∀ d os, Calls Try.prog 8 #[.slice p1 xs.length c1, .slice pa xs.length ca] (grow (redrawn w3 d) os) fun e w'' => e = .returned (.bool true) ∧ ∃ p : Regrown, w'' = grow (redrawn w3 p.d) p.os) :=
    fun d os => Calls.regrown_of (sameRow_refl xs p1 pa c1 ca _ lA (q1.below (below_regrown w3 d os)) (qA.below (below_regrown w3 d os)))
  have C6 : Hid (∀ d os, Calls Try.prog 8 #[.slice p2 ys.length c2, .slice pb ys.length cb] (grow (redrawn w3 d) os) fun e w'' => e = .returned (.bool true) ∧ ∃ p : Regrown, w'' = grow (redrawn w3 p.d) p.os) :=
    fun d os => Calls.regrown_of (sameRow_refl ys p2 pb c2 cb _ lB (q2.below (below_regrown w3 d os)) (qB.below (below_regrown w3 d os)))
  clear f x0 x1 x2 y0 y1 y2 q1 q2 qA qB qD lA lB lD r1 r2 r3 b1 b2 b3 B1 B2 rA rB rD hA hB hD tA tB HnA HnB HnD HsA HsB
  refine wp_region_quiet_below (by kernel_rfl) (by kernel_rfl) ?_
  repeat (quiet_step (first | (go_at_call 4; exact C1.out _ _) | (go_at_call 5; exact C2.out _ _) | (go_at_call 6; exact C3.out _ _) | (go_at_call 7; exact C4.out _ _) | (go_at_call 8; with_reducible exact C5.out _ _) | (go_at_call 8; with_reducible exact C6.out _ _)))
  refine wpQuiet_nil ?_
  intro _ hw'
  obtain ⟨⟨dq, osq⟩, hw''⟩ := hw'
  subst hw''
  go_wp2
  go_ret
  exact ⟨rfl, B3.trans ((below_regrown w3 dq osq).mono B3.size)⟩
end Go.Proofs.Ytlhknlbofcflcaa
