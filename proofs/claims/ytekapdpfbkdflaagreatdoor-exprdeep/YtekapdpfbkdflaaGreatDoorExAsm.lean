/- How expressions are put together in memory. Conditions: none. -/
import Derived.Test.YtekapdpfbkdflaaGreatDoorXG
import Derived.Test.YtekapdpfbkdflaaGreatDoorExOp
import Derived.Test.YtekapdpfbkdflaaGreatDoorNdLast
namespace Go.Proofs.YtekapdpfbkdflaaGreatDoor
open Go.RowKit Go.Lib Go.Sort
set_option linter.unusedVariables false
set_option maxRecDepth 20000

theorem wpZ_two {P : Program} {ops : Array Oper} {Q : Exit → Act → World → Prop} {md : Region.Mode} {S : World → Prop} {z i j : Nat} {o o' : Oper} {n : Nat} {listed : Array Bool} {a : Act} {w : World} (hr : Region.ready md ops listed = [i, j]) (ho : ops[i]? = some o) (ho' : ops[j]? = some o')
    (h : ∀ K : Act → World → Prop, Shut (∀ a' w', (i ≠ z → S w') → ((i ≠ z → S w') → wpZ P md ops Q S z n (listed.setIfInBounds i true) a' w') → K a' w') → if Region.wanted o (yielded ops a.tmps) = true then Oper.wp P o a w K Q else K (a.put o.dst undef) w)
    (h' : ∀ K : Act → World → Prop, Shut (∀ a' w', (j ≠ z → S w') → ((j ≠ z → S w') → wpZ P md ops Q S z n (listed.setIfInBounds j true) a' w') → K a' w') → if Region.wanted o' (yielded ops a.tmps) = true then Oper.wp P o' a w K Q else K (a.put o'.dst undef) w) :
    wpZ P md ops Q S z (n + 1) listed a w := by
  refine ⟨fun h0 => ?_, fun q hq => ?_⟩
  · rw [hr] at h0
    cases h0
  · rw [hr] at hq
    simp only [List.mem_cons, List.not_mem_nil, or_false] at hq
    rcases hq with rfl | rfl
    · exact wpOp_step ho (fun K hK => h K (fun a' w' h1 h2 => hK a' w' ⟨h1, h2 h1⟩))
    · exact wpOp_step ho' (fun K hK => h' K (fun a' w' h1 h2 => hK a' w' ⟨h1, h2 h1⟩))
theorem chg_trans {rb : Nat} {a b c : World} (h : Chg (· = rb) a b) (k : Chg (· = rb) b c) : Chg (· = rb) a c := h.trans k (fun _ _ q => q)
theorem chg_below {rb : Nat} {a b : World} (h : Below a.heap.size a b) : Chg (· = rb) a b := Chg.of_below h
theorem albl (w : World) (o : Obj) : Below w.heap.size w (w.alloc o) := (Below.refl _ _).alloc (Nat.le_refl _) _
theorem chg_set {rb i : Nat} {a b : World} (h : Chg (· = rb) a b) (v : Value) : Chg (· = rb) a (b.setCell ⟨rb, i, none⟩ v) := Chg.setCell (F := (· = rb)) (p := ⟨rb, i, none⟩) h (Or.inl rfl) _
theorem chg_new {rb b : Nat} {a x y : World} (h : Chg (· = rb) a x) (hb : a.heap.size ≤ b) (k : Chg (· = b) x y) : Chg (· = rb) a y :=
  h.trans k (fun j hj q => absurd q (by omega))
theorem alc2 (a : World) (x y : Obj) : ((a.alloc x).alloc y).heap.size = a.heap.size + 2 ∧ ((a.alloc x).alloc y).heap[a.heap.size]? = some x ∧ ((a.alloc x).alloc y).heap[a.heap.size + 1]? = some y := by
  have s1 : (a.alloc x).heap.size = a.heap.size + 1 := by simp
  have e1 := heap_alloc_new a x
  have e2 := heap_alloc_new (a.alloc x) y
  rw [s1] at e2
  exact ⟨by simp, (Lib.alloc_old _ _ _ (by omega)).trans e1, e2⟩
theorem alc3 (a : World) (x y z : Obj) : (((a.alloc x).alloc y).alloc z).heap.size = a.heap.size + 3 ∧ (((a.alloc x).alloc y).alloc z).heap[a.heap.size]? = some x ∧ (((a.alloc x).alloc y).alloc z).heap[a.heap.size + 1]? = some y ∧ (((a.alloc x).alloc y).alloc z).heap[a.heap.size + 2]? = some z := by
  obtain ⟨s2, e1, e2⟩ := alc2 a x y
  have e3 := heap_alloc_new ((a.alloc x).alloc y) z
  rw [s2] at e3
  exact ⟨by simp, (Lib.alloc_old _ _ _ (by omega)).trans e1, (Lib.alloc_old _ _ _ (by omega)).trans e2, e3⟩
/-- A row of operands in a block. -/
theorem eat_cons {w : World} {F : Nat → Prop} {g : Nat} {e : Ex} (hF : F g) (h : ∀ i (h : i < e.xs.length), ∃ q c k, XC w g (i * 10) e.xs[i] q c ∧ EAt w F k e.xs[i] q) : ∃ k, EAt w F k e (some ⟨g, 0, none⟩) := by
  have key : ∀ m, m ≤ e.xs.length → ∃ K, ∀ i (h : i < e.xs.length), i < m → ∃ q c, XC w g (i * 10) e.xs[i] q c ∧ EAt w F K e.xs[i] q := by
    intro m
    induction m with
    | zero => exact fun _ => ⟨0, fun i _ h => absurd h (Nat.not_lt_zero _)⟩
    | succ m ih =>
      intro hm
      obtain ⟨K, hK⟩ := ih (by omega)
      obtain ⟨q, c, k, h1, h2⟩ := h m (by omega)
      refine ⟨K + k, fun i hi him => ?_⟩
      by_cases e : i = m
      · subst e; exact ⟨q, c, h1, h2.le (by omega)⟩
      · obtain ⟨q', c', h3, h4⟩ := hK i hi (by omega)
        exact ⟨q', c', h3, h4.le (by omega)⟩
  obtain ⟨K, hK⟩ := key e.xs.length (Nat.le_refl _)
  refine ⟨K + 1, Or.inr ⟨g, 0, rfl, hF, fun i hi => ?_⟩⟩
  obtain ⟨q, c, h1, h2⟩ := hK i hi hi
  exact ⟨q, c, by rw [Nat.zero_add]; exact h1, h2⟩
theorem mk_one {w : World} {F : Nat → Prop} {g : Nat} {x : Ex} {px : Option Addr} {cx k1 : Nat} (k op : Int) (hF : F g)
    (hc : w.heap[g]? = some (.cells #[.int .i64 x.k, .int .i64 x.op, .int .i64 x.v.k, .int .i64 x.v.n, .string x.v.s, .string ⟨x.t.toArray⟩, .string ⟨x.n.toArray⟩, .int .i64 0, .int .i64 0, .slice px x.xs.length cx] 32 (0, 0)))
    (h1 : EAt w F k1 x px) : ∃ k', EAt w F k' (mkE k op [x]) (some ⟨g, 0, none⟩) := by
  refine eat_cons hF (fun i hi => ?_)
  match i, hi with
  | 0, _ =>
    refine ⟨px, cx, k1, ?_, h1⟩
    refine ⟨?_, ?_, ?_, ?_, ?_, ?_, ?_, ?_, ?_, ?_⟩ <;> (rw [Lib.cell_of_heap hc]; rfl)
theorem mk_two {w : World} {F : Nat → Prop} {g : Nat} {x y : Ex} {px py : Option Addr} {cx cy k1 k2 : Nat} (k op : Int) (hF : F g)
    (hc : w.heap[g]? = some (.cells #[.int .i64 x.k, .int .i64 x.op, .int .i64 x.v.k, .int .i64 x.v.n, .string x.v.s, .string ⟨x.t.toArray⟩, .string ⟨x.n.toArray⟩, .int .i64 0, .int .i64 0, .slice px x.xs.length cx, .int .i64 y.k, .int .i64 y.op, .int .i64 y.v.k, .int .i64 y.v.n, .string y.v.s, .string ⟨y.t.toArray⟩, .string ⟨y.n.toArray⟩, .int .i64 0, .int .i64 0, .slice py y.xs.length cy] 32 (0, 0)))
    (h1 : EAt w F k1 x px) (h2 : EAt w F k2 y py) : ∃ k', EAt w F k' (mkE k op [x, y]) (some ⟨g, 0, none⟩) := by
  refine eat_cons hF (fun i hi => ?_)
  match i, hi with
  | 0, _ =>
    refine ⟨px, cx, k1, ?_, h1⟩
    refine ⟨?_, ?_, ?_, ?_, ?_, ?_, ?_, ?_, ?_, ?_⟩ <;> (rw [Lib.cell_of_heap hc]; rfl)
  | 1, _ =>
    refine ⟨py, cy, k2, ?_, h2⟩
    refine ⟨?_, ?_, ?_, ?_, ?_, ?_, ?_, ?_, ?_, ?_⟩ <;> (rw [Lib.cell_of_heap hc]; rfl)
/-- What lies in old blocks stays, where only a set of other blocks is turned. -/
theorem EAt.old {w0 w w' : World} {G : Nat → Prop} {N k : Nat} {e : Ex} {p : Option Addr} (h : EAt w (N ≤ ·) k e p) (C : Chg G w w') (hG : ∀ b, N ≤ b → b < w.heap.size → ¬ G b) : EAt w' (N ≤ ·) k e p := by
  have h1 := h.mono (G := fun b => N ≤ b ∧ b < w.heap.size) (fun b hb q => ⟨q, hb⟩)
  exact (h1.chg C (fun b q => hG b q.1 q.2)).mono (fun b _ q => q.1)
/-- The end of a function whose result is an expression. -/
theorem finX {w X : World} {F : Nat → Prop} {rb b : Nat} {p : Option Addr} {c : Nat} {xs l0 l : Ts} {d0 d k ce : Nat} {e : Ex} {pe : Option Addr} (h0 : RS w rb p c xs l0 d0) (C : Chg (· = rb) w X) (hb : w.heap.size ≤ b) (hr : RS X rb p c xs l d) (hE : EAt X (fun j => F j ∧ j ≠ b) k e pe) :
    RdE (QF F) rb p c xs d (.ok (e, l)) w (.returned (.agg #[.int .i64 e.k, .int .i64 e.op, .int .i64 e.v.k, .int .i64 e.v.n, .string e.v.s, .string ⟨e.t.toArray⟩, .string ⟨e.n.toArray⟩, .int .i64 0, .int .i64 0, .slice pe e.xs.length ce])) (put10 X b (.int .i64 e.k) (.int .i64 e.op) (.int .i64 e.v.k) (.int .i64 e.v.n) (.string e.v.s) (.string ⟨e.t.toArray⟩) (.string ⟨e.n.toArray⟩) (.int .i64 0) (.int .i64 0) (.slice pe e.xs.length ce)) := by
  have K := put10_chg X b (.int .i64 e.k) (.int .i64 e.op) (.int .i64 e.v.k) (.int .i64 e.v.n) (.string e.v.s) (.string ⟨e.t.toArray⟩) (.string ⟨e.n.toArray⟩) (.int .i64 0) (.int .i64 0) (.slice pe e.xs.length ce)
  exact ⟨chg_new C hb K, _, rfl, ⟨pe, ce, rfl, k, (hE.chg K (fun j q r => q.2 r)).mono (fun j _ q => q.1)⟩, h0.fresh hr hb K⟩
/-- An older expression, behind what was turned since. -/
theorem EAt.keep {w X : World} {F F' : Nat → Prop} {rb k : Nat} {e : Ex} {p : Option Addr} (h : EAt w F k e p) (C : Chg (· = rb) w X) (hrb : ∀ j, F j → j ≠ rb) (hF : ∀ j, F j → j < w.heap.size → F' j) : EAt X F' k e p := by
  have h1 := h.mono (G := fun j => F j ∧ j < w.heap.size) (fun j hj q => ⟨q, hj⟩)
  exact (h1.chg C (fun j q r => hrb j q.1 r)).mono (fun j _ q => hF j q.1 q.2)
/-- A newer one. -/
theorem EAt.newer {w X : World} {F F' : Nat → Prop} {k : Nat} {e : Ex} {p : Option Addr} (h : EAt w F k e p) (B : Below w.heap.size w X) (hF : ∀ j, F j → F' j) : EAt X F' k e p :=
  ((h.chg (G := fun _ => False) (Chg.of_below B) (fun _ _ q => q)).mono (fun j _ q => hF j q))
end Go.Proofs.YtekapdpfbkdflaaGreatDoor
