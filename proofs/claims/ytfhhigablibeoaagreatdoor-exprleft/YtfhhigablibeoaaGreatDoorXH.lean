/- A region that draws its order and whose last operation, a store, turns what an earlier load has read: what the loads read is asked only as long as that store has not come. No conditions. How expressions are put together in memory. Conditions: none. What catalog.Name answers. Condition: the text lies within the reach. What callNamed, counts and literal of package expr do. Conditions: none. -/
import Derived.Deep.RegionHeld
import Derived.Maps.RangeWalk
import Derived.Test.YtfhhigablibeoaaGreatDoorXG
import Derived.Test.YtfhhigablibeoaaGreatDoorExOp
import Derived.Laws.Rows
import Derived.Tactics
namespace Go.Proofs.YtfhhigablibeoaaGreatDoor
open Go
set_option linter.unusedVariables false

section
variable {P : Program} {ops : Array Oper} {Q : Exit → Act → World → Prop} {md : Region.Mode} {S : World → Prop} {z : Nat}
/-- Whatever comes up, S holds behind it, unless it is number z. -/
def wpZ (P : Program) (md : Region.Mode) (ops : Array Oper) (Q : Exit → Act → World → Prop) (S : World → Prop) (z : Nat) : Nat → Array Bool → Act → World → Prop
  | 0, listed, a, w => Region.ready md ops listed = [] ∧ Q .normal a w
  | n + 1, listed, a, w => (Region.ready md ops listed = [] → Q .normal a w) ∧ ∀ j ∈ Region.ready md ops listed, wpOp P ops Q j (fun a' w' => (j ≠ z → S w') ∧ wpZ P md ops Q S z n (listed.setIfInBounds j true) a' w') a w
theorem wpZ_any : ∀ (n : Nat) (listed : Array Bool) (a : Act) (w : World), wpZ P md ops Q S z n listed a w → wpAny P md ops Q n listed a w
  | 0, _, _, _, h => h
  | n + 1, _, _, _, h => ⟨h.1, fun j hj => wpOp_mono (fun a' w' k => wpZ_any n _ a' w' k.2) (h.2 j hj)⟩
/-- Number z waits for number i. -/
def waitsFor (md : Region.Mode) (ops : Array Oper) (z i : Nat) : Bool := ((ops[z]?).map fun o => o.after.any fun e => Region.binds md e && e.on == i).getD false
theorem not_z {listed : Array Bool} {i j : Nat} (hw : waitsFor md ops z i = true) (hj : j ∈ Region.ready md ops listed) (hi : listed.getD i true = false) : j ≠ z := by
  rintro rfl
  obtain ⟨_, o, ho, hall⟩ := mem_ready.1 hj
  unfold waitsFor at hw
  rw [ho] at hw
  simp only [Option.map_some, Option.getD_some, Array.any_eq_true, Bool.and_eq_true, beq_iff_eq] at hw
  obtain ⟨k, hk, hb, he⟩ := hw
  have := hall _ (Array.getElem_mem hk) hb
  rw [he] at this
  simp only [Array.getD] at this hi
  split at hi
  · rename_i hlt
    simp only [hlt, dif_pos] at this
    rw [this] at hi
    cases hi
  · cases hi
theorem wpZ_first {i : Nat} {oi : Oper} {v : Value} (hi : ops[i]? = some oi) (hsel : ∀ (j : Nat) (o : Oper) cs b, ops[j]? = some o → o.op ≠ .select cs b) (hw : waitsFor md ops z i = true)
    (hQ : ∀ c a w, Q (.panic c) (a.put oi.dst v) w → Q (.panic c) a w) : ∀ (n : Nat) (listed : Array Bool) (a : Act) (w : World),
      (∀ j oj, ops[j]? = some oj → j ≠ i → listed.getD j true = false → (∀ e ∈ oj.after, Region.binds md e = true → e.on ≠ i) → oi.apart ops oj = true) →
      i ∈ Region.ready md ops listed → YieldsIf P ops S oi v a → S w → wpZ P md ops Q S z n (listed.setIfInBounds i true) (a.put oi.dst v) w → wpZ P md ops Q S z (n + 1) listed a w
  | n, listed, a, w, hfree, hr, hy, hS, H => by
    have hun := (mem_ready.1 hr).1
    refine ⟨fun h => absurd hr (by rw [h]; simp), fun j hj => ?_⟩
    by_cases e : j = i
    · rw [e]
      exact hy.wpOp hi hS ⟨fun _ => hS, H⟩
    · have hjm := ready_mono hj e
      have hjz := not_z hw hj hun
      obtain ⟨hjun, oj, hoj, hall⟩ := mem_ready.1 hj
      have hnot : ∀ e' ∈ oj.after, Region.binds md e' = true → e'.on ≠ i := fun e' he hb q => by
        have h1 := hall e' he hb
        rw [q] at h1
        simp only [Array.getD] at h1 hun
        split at hun
        · rename_i hlt
          simp only [hlt, dif_pos] at h1
          rw [h1] at hun
          cases hun
        · cases hun
      match n, H with
      | 0, H =>
        rw [H.1] at hjm
        cases hjm
      | n + 1, H =>
        have h2 := wpOp_putIf hoj (hfree j oj hoj e hjun hnot) (fun cs b => hsel i oi cs b hi) (fun cs b => hsel j oj cs b hoj) hQ hy (H.2 j hjm)
        refine wpOp_mono (fun a' w' h3 => ⟨fun _ => h3.2.1 hjz, ?_⟩) h2
        refine wpZ_first hi hsel hw hQ n (listed.setIfInBounds j true) a' w' (fun k ok hk hki hku hno => hfree k ok hk hki ?_ hno) (ready_mono hr (Ne.symm e)) h3.1 (h3.2.1 hjz) ?_
        · by_cases q : j = k
          · rw [← q]; exact hjun
          · rw [getD_set_ne true q] at hku; exact hku
        · rw [Array.setIfInBounds_comm _ _ e]
          exact h3.2.2
theorem wpZ_take {i t : Nat} {oi : Oper} {v : Value} {n : Nat} {listed : Array Bool} {a : Act} {w : World} (hi : ops[i]? = some oi) (hd : oi.dst = some t)
    (hs : Region.noSelect ops = true) (hf : Region.free md ops listed i = true) (hr : (Region.ready md ops listed).contains i = true) (hw : waitsFor md ops z i = true)
    (hQ : ∀ c a w, Q (.panic c) (a.put (some t) v) w → Q (.panic c) a w) (hy : YieldsIf P ops S oi v a) (hS : S w)
    (h : wpZ P md ops Q S z n (listed.setIfInBounds i true) (a.put (some t) v) w) : wpZ P md ops Q S z (n + 1) listed a w :=
  wpZ_first hi (Region.noSelect_spec hs) hw (by rw [hd]; exact hQ) n listed a w (Region.free_spec hi hf) (by simpa using hr) hy hS (by rw [hd]; exact h)
/-- One alone may come up. -/
theorem wpZ_step {i : Nat} {o : Oper} {n : Nat} {listed : Array Bool} {a : Act} {w : World} (hr : Region.ready md ops listed = [i]) (ho : ops[i]? = some o)
    (h : ∀ K : Act → World → Prop, Shut (∀ a' w', (i ≠ z → S w') → ((i ≠ z → S w') → wpZ P md ops Q S z n (listed.setIfInBounds i true) a' w') → K a' w') → if Region.wanted o (yielded ops a.tmps) = true then Oper.wp P o a w K Q else K (a.put o.dst undef) w) :
    wpZ P md ops Q S z (n + 1) listed a w := by
  refine ⟨fun h0 => ?_, fun j hj => ?_⟩
  · rw [hr] at h0
    cases h0
  · rw [hr] at hj
    obtain rfl : j = i := by simpa using hj
    exact wpOp_step ho (fun K hK => h K (fun a' w' h1 h2 => hK a' w' ⟨h1, h2 h1⟩))
theorem wpZ_done {listed : Array Bool} {a : Act} {w : World} {n : Nat} (hr : Region.ready md ops listed = []) (h : Q .normal a w) : wpZ P md ops Q S z n listed a w :=
  match n with
  | 0 => ⟨hr, h⟩
  | _ + 1 => ⟨fun _ => h, by rw [hr]; simp⟩
theorem wp_region_z {id : Nat} {a : Act} {w : World} (hm : P.follows .mixedOrders = true) (hS : S w.drew)
    (h : S w.drew → wpZ P .any ops Q S z ops.size (Array.replicate ops.size false) a w.drew) : (Code.region id ops true).wp P Q a w :=
  wp_region_any hm (wpZ_any _ _ _ _ (h hS))
end
end Go.Proofs.YtfhhigablibeoaaGreatDoor
namespace Go.Proofs.YtfhhigablibeoaaGreatDoor
open Go.RowKit Go.Lib Go.Sort
set_option linter.unusedVariables false
set_option maxRecDepth 20000

theorem wpZ_two {P : Program} {ops : Array Oper} {Q : Exit → Act → World → Prop} {md : Region.Mode} {S : World → Prop} {z i j : Nat} {o o' : Oper} {n : Nat} {listed : Array Bool} {a : Act} {w : World} (hr : Region.ready md ops listed = [i, j]) (ho : ops[i]? = some o) (ho' : ops[j]? = some o')
    (h : ∀ K : Act → World → Prop, Shut (∀ a' w', (i ≠ z → S w') → ((i ≠ z → S w') → wpZ P md ops Q S z n (listed.setIfInBounds i true) a' w') → K a' w') → if Region.wanted o (yielded ops a.tmps) = true then Oper.wp P o a w K Q else K (a.put o.dst undef) w)
    (h' : ∀ K : Act → World → Prop, Shut (∀ a' w', (j ≠ z → S w') → ((j ≠ z → S w') → wpZ P md ops Q S z n (listed.setIfInBounds j true) a' w') → K a' w') → if Region.wanted o' (yielded ops a.tmps) = true then Oper.wp P o' a w K Q else K (a.put o'.dst undef) w) :
    wpZ P md ops Q S z (n + 1) listed a w := by
  refine ⟨fun h0 => ?_, fun q hq => ?_⟩
  · rw [hr] at h0
    cases h0
  · rw [hr] at hq
    simp only [List.mem_cons, List.not_mem_nil, or_false] at hq
    rcases hq with rfl | rfl
    · exact wpOp_step ho (fun K hK => h K (fun a' w' h1 h2 => hK a' w' ⟨h1, h2 h1⟩))
    · exact wpOp_step ho' (fun K hK => h' K (fun a' w' h1 h2 => hK a' w' ⟨h1, h2 h1⟩))
theorem chg_trans {rb : Nat} {a b c : World} (h : Chg (· = rb) a b) (k : Chg (· = rb) b c) : Chg (· = rb) a c := h.trans k (fun _ _ q => q)
theorem chg_below {rb : Nat} {a b : World} (h : Below a.heap.size a b) : Chg (· = rb) a b := Chg.of_below h
theorem albl (w : World) (o : Obj) : Below w.heap.size w (w.alloc o) := (Below.refl _ _).alloc (Nat.le_refl _) _
theorem chg_set {rb i : Nat} {a b : World} (h : Chg (· = rb) a b) (v : Value) : Chg (· = rb) a (b.setCell ⟨rb, i, none⟩ v) := Chg.setCell (F := (· = rb)) (p := ⟨rb, i, none⟩) h (Or.inl rfl) _
theorem chg_new {rb b : Nat} {a x y : World} (h : Chg (· = rb) a x) (hb : a.heap.size ≤ b) (k : Chg (· = b) x y) : Chg (· = rb) a y :=
  h.trans k (fun j hj q => absurd q (by omega))
theorem alc2 (a : World) (x y : Obj) : ((a.alloc x).alloc y).heap.size = a.heap.size + 2 ∧ ((a.alloc x).alloc y).heap[a.heap.size]? = some x ∧ ((a.alloc x).alloc y).heap[a.heap.size + 1]? = some y := by
  have s1 : (a.alloc x).heap.size = a.heap.size + 1 := by simp
  have e1 := heap_alloc_new a x
  have e2 := heap_alloc_new (a.alloc x) y
  rw [s1] at e2
  exact ⟨by simp, (Lib.alloc_old _ _ _ (by omega)).trans e1, e2⟩
theorem alc3 (a : World) (x y z : Obj) : (((a.alloc x).alloc y).alloc z).heap.size = a.heap.size + 3 ∧ (((a.alloc x).alloc y).alloc z).heap[a.heap.size]? = some x ∧ (((a.alloc x).alloc y).alloc z).heap[a.heap.size + 1]? = some y ∧ (((a.alloc x).alloc y).alloc z).heap[a.heap.size + 2]? = some z := by
  obtain ⟨s2, e1, e2⟩ := alc2 a x y
  have e3 := heap_alloc_new ((a.alloc x).alloc y) z
  rw [s2] at e3
  exact ⟨by simp, (Lib.alloc_old _ _ _ (by omega)).trans e1, (Lib.alloc_old _ _ _ (by omega)).trans e2, e3⟩
/-- A row of operands in a block. -/
theorem eat_cons {w : World} {F : Nat → Prop} {g : Nat} {e : Ex} (hF : F g) (h : ∀ i (h : i < e.xs.length), ∃ q c k, XC w g (i * 10) e.xs[i] q c ∧ EAt w F k e.xs[i] q) : ∃ k, EAt w F k e (some ⟨g, 0, none⟩) := by
  have key : ∀ m, m ≤ e.xs.length → ∃ K, ∀ i (h : i < e.xs.length), i < m → ∃ q c, XC w g (i * 10) e.xs[i] q c ∧ EAt w F K e.xs[i] q := by
    intro m
    induction m with
    | zero => exact fun _ => ⟨0, fun i _ h => absurd h (Nat.not_lt_zero _)⟩
    | succ m ih =>
      intro hm
      obtain ⟨K, hK⟩ := ih (by omega)
      obtain ⟨q, c, k, h1, h2⟩ := h m (by omega)
      refine ⟨K + k, fun i hi him => ?_⟩
      by_cases e : i = m
      · subst e; exact ⟨q, c, h1, h2.le (by omega)⟩
      · obtain ⟨q', c', h3, h4⟩ := hK i hi (by omega)
        exact ⟨q', c', h3, h4.le (by omega)⟩
  obtain ⟨K, hK⟩ := key e.xs.length (Nat.le_refl _)
  refine ⟨K + 1, Or.inr ⟨g, 0, rfl, hF, fun i hi => ?_⟩⟩
  obtain ⟨q, c, h1, h2⟩ := hK i hi hi
  exact ⟨q, c, by rw [Nat.zero_add]; exact h1, h2⟩
theorem mk_one {w : World} {F : Nat → Prop} {g : Nat} {x : Ex} {px : Option Addr} {cx k1 : Nat} (k op : Int) (hF : F g)
    (hc : w.heap[g]? = some (.cells #[.int .i64 x.k, .int .i64 x.op, .int .i64 x.v.k, .int .i64 x.v.n, .string x.v.s, .string ⟨x.t.toArray⟩, .string ⟨x.n.toArray⟩, .int .i64 0, .int .i64 0, .slice px x.xs.length cx] 32 (0, 0)))
    (h1 : EAt w F k1 x px) : ∃ k', EAt w F k' (mkE k op [x]) (some ⟨g, 0, none⟩) := by
  refine eat_cons hF (fun i hi => ?_)
  match i, hi with
  | 0, _ =>
    refine ⟨px, cx, k1, ?_, h1⟩
    refine ⟨?_, ?_, ?_, ?_, ?_, ?_, ?_, ?_, ?_, ?_⟩ <;> (rw [Lib.cell_of_heap hc]; rfl)
theorem mk_two {w : World} {F : Nat → Prop} {g : Nat} {x y : Ex} {px py : Option Addr} {cx cy k1 k2 : Nat} (k op : Int) (hF : F g)
    (hc : w.heap[g]? = some (.cells #[.int .i64 x.k, .int .i64 x.op, .int .i64 x.v.k, .int .i64 x.v.n, .string x.v.s, .string ⟨x.t.toArray⟩, .string ⟨x.n.toArray⟩, .int .i64 0, .int .i64 0, .slice px x.xs.length cx, .int .i64 y.k, .int .i64 y.op, .int .i64 y.v.k, .int .i64 y.v.n, .string y.v.s, .string ⟨y.t.toArray⟩, .string ⟨y.n.toArray⟩, .int .i64 0, .int .i64 0, .slice py y.xs.length cy] 32 (0, 0)))
    (h1 : EAt w F k1 x px) (h2 : EAt w F k2 y py) : ∃ k', EAt w F k' (mkE k op [x, y]) (some ⟨g, 0, none⟩) := by
  refine eat_cons hF (fun i hi => ?_)
  match i, hi with
  | 0, _ =>
    refine ⟨px, cx, k1, ?_, h1⟩
    refine ⟨?_, ?_, ?_, ?_, ?_, ?_, ?_, ?_, ?_, ?_⟩ <;> (rw [Lib.cell_of_heap hc]; rfl)
  | 1, _ =>
    refine ⟨py, cy, k2, ?_, h2⟩
    refine ⟨?_, ?_, ?_, ?_, ?_, ?_, ?_, ?_, ?_, ?_⟩ <;> (rw [Lib.cell_of_heap hc]; rfl)
/-- What lies in old blocks stays, where only a set of other blocks is turned. -/
theorem EAt.old {w0 w w' : World} {G : Nat → Prop} {N k : Nat} {e : Ex} {p : Option Addr} (h : EAt w (N ≤ ·) k e p) (C : Chg G w w') (hG : ∀ b, N ≤ b → b < w.heap.size → ¬ G b) : EAt w' (N ≤ ·) k e p := by
  have h1 := h.mono (G := fun b => N ≤ b ∧ b < w.heap.size) (fun b hb q => ⟨q, hb⟩)
  exact (h1.chg C (fun b q => hG b q.1 q.2)).mono (fun b _ q => q.1)
/-- The end of a function whose result is an expression. -/
theorem finX {w X : World} {F : Nat → Prop} {rb b : Nat} {p : Option Addr} {c : Nat} {xs l0 l : Ts} {d0 d k ce : Nat} {e : Ex} {pe : Option Addr} (h0 : RS w rb p c xs l0 d0) (C : Chg (· = rb) w X) (hb : w.heap.size ≤ b) (hr : RS X rb p c xs l d) (hE : EAt X (fun j => F j ∧ j ≠ b) k e pe) :
    RdE (QF F) rb p c xs d (.ok (e, l)) w (.returned (.agg #[.int .i64 e.k, .int .i64 e.op, .int .i64 e.v.k, .int .i64 e.v.n, .string e.v.s, .string ⟨e.t.toArray⟩, .string ⟨e.n.toArray⟩, .int .i64 0, .int .i64 0, .slice pe e.xs.length ce])) (put10 X b (.int .i64 e.k) (.int .i64 e.op) (.int .i64 e.v.k) (.int .i64 e.v.n) (.string e.v.s) (.string ⟨e.t.toArray⟩) (.string ⟨e.n.toArray⟩) (.int .i64 0) (.int .i64 0) (.slice pe e.xs.length ce)) := by
  have K := put10_chg X b (.int .i64 e.k) (.int .i64 e.op) (.int .i64 e.v.k) (.int .i64 e.v.n) (.string e.v.s) (.string ⟨e.t.toArray⟩) (.string ⟨e.n.toArray⟩) (.int .i64 0) (.int .i64 0) (.slice pe e.xs.length ce)
  exact ⟨chg_new C hb K, _, rfl, ⟨pe, ce, rfl, k, (hE.chg K (fun j q r => q.2 r)).mono (fun j _ q => q.1)⟩, h0.fresh hr hb K⟩
/-- An older expression, behind what was turned since. -/
theorem EAt.keep {w X : World} {F F' : Nat → Prop} {rb k : Nat} {e : Ex} {p : Option Addr} (h : EAt w F k e p) (C : Chg (· = rb) w X) (hrb : ∀ j, F j → j ≠ rb) (hF : ∀ j, F j → j < w.heap.size → F' j) : EAt X F' k e p := by
  have h1 := h.mono (G := fun j => F j ∧ j < w.heap.size) (fun j hj q => ⟨q, hj⟩)
  exact (h1.chg C (fun j q r => hrb j q.1 r)).mono (fun j _ q => hF j q.1 q.2)
/-- A newer one. -/
theorem EAt.newer {w X : World} {F F' : Nat → Prop} {k : Nat} {e : Ex} {p : Option Addr} (h : EAt w F k e p) (B : Below w.heap.size w X) (hF : ∀ j, F j → F' j) : EAt X F' k e p :=
  ((h.chg (G := fun _ => False) (Chg.of_below B) (fun _ _ q => q)).mono (fun j _ q => hF j q))
end Go.Proofs.YtfhhigablibeoaaGreatDoor
namespace Go.Proofs.YtfhhigablibeoaaGreatDoor
open Go.RowKit Go.Lib
set_option linter.unusedVariables false
set_option maxRecDepth 20000

theorem kw_mem {l x : List UInt8} (h : (l == x) = true) (hx : x ∈ kws) : true = kw l := (List.any_eq_true.2 ⟨x, hx, h⟩).symm
theorem kw_none {l : List UInt8} (h0 : (l == [115, 101, 108, 101, 99, 116]) = false) (h1 : (l == [100, 105, 115, 116, 105, 110, 99, 116]) = false) (h2 : (l == [102, 114, 111, 109]) = false) (h3 : (l == [106, 111, 105, 110]) = false) (h4 : (l == [111, 110]) = false) (h5 : (l == [119, 104, 101, 114, 101]) = false) (h6 : (l == [103, 114, 111, 117, 112]) = false) (h7 : (l == [98, 121]) = false) (h8 : (l == [104, 97, 118, 105, 110, 103]) = false) (h9 : (l == [111, 114, 100, 101, 114]) = false) (h10 : (l == [97, 115, 99]) = false) (h11 : (l == [100, 101, 115, 99]) = false) (h12 : (l == [108, 105, 109, 105, 116]) = false) (h13 : (l == [111, 102, 102, 115, 101, 116]) = false) (h14 : (l == [97, 115]) = false) (h15 : (l == [105, 110, 115, 101, 114, 116]) = false) (h16 : (l == [105, 110, 116, 111]) = false) (h17 : (l == [118, 97, 108, 117, 101, 115]) = false) (h18 : (l == [117, 112, 100, 97, 116, 101]) = false) (h19 : (l == [115, 101, 116]) = false) (h20 : (l == [100, 101, 108, 101, 116, 101]) = false) (h21 : (l == [99, 114, 101, 97, 116, 101]) = false) (h22 : (l == [116, 97, 98, 108, 101]) = false) (h23 : (l == [117, 110, 105, 113, 117, 101]) = false) (h24 : (l == [105, 110, 100, 101, 120]) = false) (h25 : (l == [100, 114, 111, 112]) = false) (h26 : (l == [110, 111, 116]) = false) (h27 : (l == [110, 117, 108, 108]) = false) (h28 : (l == [105, 115]) = false) (h29 : (l == [97, 110, 100]) = false) (h30 : (l == [111, 114]) = false) (h31 : (l == [116, 114, 117, 101]) = false) (h32 : (l == [102, 97, 108, 115, 101]) = false) (h33 : (l == [98, 101, 103, 105, 110]) = false) (h34 : (l == [99, 111, 109, 109, 105, 116]) = false) (h35 : (l == [114, 111, 108, 108, 98, 97, 99, 107]) = false) (h36 : (l == [116, 111]) = false) (h37 : (l == [115, 97, 118, 101, 112, 111, 105, 110, 116]) = false) (h38 : (l == [114, 101, 108, 101, 97, 115, 101]) = false) (h39 : (l == [105, 110, 116]) = false) (h40 : (l == [116, 101, 120, 116]) = false) (h41 : (l == [98, 108, 111, 98]) = false) (h42 : (l == [98, 111, 111, 108]) = false) : false = kw l := by
  simp only [kw, kws, List.any_cons, List.any_nil, h0, h1, h2, h3, h4, h5, h6, h7, h8, h9, h10, h11, h12, h13, h14, h15, h16, h17, h18, h19, h20, h21, h22, h23, h24, h25, h26, h27, h28, h29, h30, h31, h32, h33, h34, h35, h36, h37, h38, h39, h40, h41, h42, Bool.or_false]

set_option maxHeartbeats 1000000 in
theorem cdigit_any (c : Int) (w : World) :
    Calls Tryz.prog 132 #[.int .u8 c] w fun e w' => e = .returned (.bool (dig c)) ∧ w' = w := by
  unfold dig
  go_enter Tryz.func132, Tryz.ntmps132
  go_wp2
  all_goals go_ret
  all_goals refine ⟨?_, rfl⟩
  all_goals (simp_all; try omega)

set_option maxHeartbeats 1000000 in
theorem cnamed_any (c : Int) (w : World) :
    Calls Tryz.prog 134 #[.int .u8 c] w fun e w' => e = .returned (.bool (nam c)) ∧ w' = w := by
  have D := fun w => cdigit_any c w
  unfold nam
  generalize dig c = d at *
  go_enter Tryz.func134, Tryz.ntmps134
  go_wp2_with (go_at_call 132; with_reducible refine (D _).mono ?_; rintro e w2 ⟨rfl, hw⟩; subst hw)
  all_goals go_ret
  all_goals refine ⟨?_, rfl⟩
  all_goals (simp_all; try omega)

set_option maxHeartbeats 4000000 in
theorem keyword_any (s : ByteArray) (w : World) :
    Calls Tryz.prog 133 #[.string s] w fun e w' => e = .returned (.bool (kw s.data.toList)) ∧ w' = w := by
  obtain ⟨⟨l⟩⟩ := s
  show Calls _ _ _ _ fun e w' => e = .returned (.bool (kw l)) ∧ w' = w
  obtain ⟨K, HK⟩ : ∃ K, Hid (kw l = K) := ⟨_, rfl⟩
  rw [HK.out]
  go_enter Tryz.func133, Tryz.ntmps133
  go_wp2
  all_goals go_ret
  all_goals first
    | (exfalso; rename_i a b; exact absurd (a.symm.trans b) (by decide))
    | (exact ⟨congrArg (fun b => Ending.returned (.bool b)) ((kw_mem (by assumption) (by decide +kernel)).trans HK.out), rfl⟩)
    | (exact ⟨congrArg (fun b => Ending.returned (.bool b)) ((kw_none (by assumption) (by assumption) (by assumption) (by assumption) (by assumption) (by assumption) (by assumption) (by assumption) (by assumption) (by assumption) (by assumption) (by assumption) (by assumption) (by assumption) (by assumption) (by assumption) (by assumption) (by assumption) (by assumption) (by assumption) (by assumption) (by assumption) (by assumption) (by assumption) (by assumption) (by assumption) (by assumption) (by assumption) (by assumption) (by assumption) (by assumption) (by assumption) (by assumption) (by assumption) (by assumption) (by assumption) (by assumption) (by assumption) (by assumption) (by assumption) (by assumption) (by assumption) (by assumption)).trans HK.out), rfl⟩)
/-- Is it a right name? -/
def NmOk (s : ByteArray) : Prop := 0 < s.size ∧ s.size ≤ 24 ∧ kw s.data.toList = false ∧ ∀ k (h : k < s.size), nam (s[k]'h).toNat = true ∧ (k = 0 → dig (s[k]'h).toNat = false)

set_option maxHeartbeats 4000000 in
theorem name_any (s : ByteArray) (r : Int) (w : World) (hs : s.size ≤ 140737488351232) (h0 : NmOk s → r = 0) (h3 : ¬ NmOk s → r = 3) :
    Calls Tryz.prog 116 #[.string s] w fun e w' => e = .returned (.int .i64 r) ∧ w' = w := by
  have K := fun w => keyword_any s w
  by_cases hz : s.size = 0
  · obtain rfl := h3 (fun h => by have := h.1; omega)
    clear h0 h3
    have e0 : ((s.size : Int) == 0) = true := by rw [hz]; rfl
    go_enter Tryz.func116, Tryz.ntmps116
    go_wp2_with fail
    go_ret
    exact ⟨rfl, rfl⟩
  by_cases hb : 24 < s.size
  · obtain rfl := h3 (fun h => by have := h.2.1; omega)
    clear h0 h3
    have hb' : (24 : Int) < s.size := by omega
    go_enter Tryz.func116, Tryz.ntmps116
    go_wp2_with fail
    go_ret
    exact ⟨rfl, rfl⟩
  have hp : 0 < s.size := by omega
  have D := fun w => cdigit_any (s[0]'hp).toNat w
  have e0 : ((s.size : Int) == 0) = false := beq_eq_false_iff_ne.2 (by omega)
  have e1 : ¬ (24 : Int) < s.size := by omega
  by_cases hd : dig (s[0]'hp).toNat = true
  · obtain rfl := h3 (fun h => by have := (h.2.2.2 0 hp).2 rfl; rw [hd] at this; cases this)
    clear h0 h3
    rw [hd] at D
    go_enter Tryz.func116, Tryz.ntmps116
    go_wp2_with (go_at_call 132; with_reducible refine (D _).mono ?_; rintro e w2 ⟨rfl, hw⟩; subst hw)
    go_ret
    exact ⟨rfl, rfl⟩
  have hd' : dig (s[0]'hp).toNat = false := by simpa using hd
  rw [hd'] at D
  by_cases hk : kw s.data.toList = true
  · obtain rfl := h3 (fun h => by have := h.2.2.1; rw [hk] at this; cases this)
    clear h0 h3
    rw [hk] at K
    go_enter Tryz.func116, Tryz.ntmps116
    go_wp2_with (first
      | (go_at_call 132; with_reducible refine (D _).mono ?_; rintro e w2 ⟨rfl, hw⟩; subst hw)
      | (go_at_call 133; with_reducible refine (K _).mono ?_; rintro e w2 ⟨rfl, hw⟩; subst hw))
    go_ret
    exact ⟨rfl, rfl⟩
  have hk' : kw s.data.toList = false := by simpa using hk
  rw [hk'] at K
  have H0 : Hid ((∀ k (h : k < s.size), nam (s[k]'h).toNat = true) → r = 0) := fun h => h0 ⟨hp, by omega, hk', fun k hk => ⟨h k hk, fun e => by subst e; exact hd'⟩⟩
  have H3 : Hid (∀ k (h : k < s.size), nam (s[k]'h).toNat = false → r = 3) := fun k h hn => h3 (fun q => by have := (q.2.2.2 k h).1; rw [hn] at this; cases this)
  clear h0 h3 hd hd' hk hk' hz hb
  go_enter Tryz.func116, Tryz.ntmps116
  go_wp2_with (first
    | (go_at_call 132; with_reducible refine (D _).mono ?_; rintro e w2 ⟨rfl, hw⟩; replace hw := hw.symm; subst hw)
    | (go_at_call 133; with_reducible refine (K _).mono ?_; rintro e w2 ⟨rfl, hw⟩; replace hw := hw.symm; subst hw))
  clear D K
  go_loopw [23] (fun i wr => wr = w ∧ ∃ k : Nat, k ≤ s.size ∧ i = .int .i64 k ∧ ∀ j (h : j < s.size), j < k → nam (s[j]'h).toNat = true) (fun i _ => s.size - (RowKit.intOf i).toNat)
  case atStart => exact ⟨rfl, 0, Nat.zero_le _, rfl, fun j h hj => absurd hj (Nat.not_lt_zero _)⟩
  case round =>
    obtain ⟨rfl, k, hks, rfl, hA⟩ := hrel
    have HA := hid hA
    clear hA
    by_cases hx : k < s.size
    · have N := fun w => cnamed_any (s[k]'hx).toNat w
      cases hn : nam (s[k]'hx).toNat
      · rw [hn] at N
        obtain rfl := H3.out k hx hn
        clear H0 H3 HA
        go_wp2_with (go_at_call 134; with_reducible refine (N _).mono ?_; rintro e w2 ⟨rfl, hw⟩; subst hw)
        go_ret
        exact ⟨rfl, rfl⟩
      · rw [hn] at N
        go_wp2_with (go_at_call 134; with_reducible refine (N _).mono ?_; rintro e w2 ⟨rfl, hw⟩; subst hw)
        go_roundw
        case rel => exact ⟨trivial, k + 1, by omega, by go_num, fun j h hj => by
          by_cases e : j = k
          · subst e; exact hn
          · exact HA.out j h (by omega)⟩
        case measure => simp [RowKit.intOf]; omega
    · obtain rfl := H0.out (fun j h => HA.out j h (by omega))
      clear H0 H3 HA
      go_wp2_with fail
      go_ret
      exact ⟨rfl, rfl⟩

theorem nmB_iff (l : List UInt8) : nmB l = true ↔ NmOk ⟨⟨l⟩⟩ := by
  unfold nmB NmOk
  have hsz : (⟨⟨l⟩⟩ : ByteArray).size = l.length := rfl
  have hat : ∀ k (h : k < (⟨⟨l⟩⟩ : ByteArray).size), (⟨⟨l⟩⟩ : ByteArray)[k]'h = l[k]'h := fun k h => rfl
  simp only [Bool.and_eq_true, decide_eq_true_eq, Bool.not_eq_true', List.all_eq_true]
  constructor
  · rintro ⟨h1, h2, h3, h4, h5⟩
    refine ⟨h1, h2, h4, fun k h => ⟨?_, fun e => ?_⟩⟩
    · rw [hat]; exact h5 _ (List.getElem_mem _)
    · subst e
      rw [hat]
      have : l.headD 48 = l[0]'h := by cases l with | nil => simp at h1 | cons a r => rfl
      rw [this] at h3
      exact h3
  · rintro ⟨h1, h2, h4, h5⟩
    refine ⟨h1, h2, ?_, h4, fun c hc => ?_⟩
    · have h := (h5 0 h1).2 rfl
      rw [hat] at h
      have : l.headD 48 = l[0]'h1 := by
        cases l with
        | nil => exact absurd h1 (by decide)
        | cons a r => rfl
      rw [this]
      exact h
    · obtain ⟨k, hk, rfl⟩ := List.getElem_of_mem hc
      exact (h5 k hk).1
/-- Name, over a list of letters. -/
theorem xname_any (l : List UInt8) (w : World) (hs : l.length ≤ 140737488351232) :
    Calls Tryz.prog 116 #[.string ⟨l.toArray⟩] w fun e w' => e = .returned (.int .i64 (if nmB l then 0 else 3)) ∧ w' = w := by
  refine name_any ⟨⟨l⟩⟩ _ w hs (fun h => ?_) (fun h => ?_)
  · rw [if_pos ((nmB_iff l).2 h)]
  · rw [if_neg (fun q => h ((nmB_iff l).1 q))]
end Go.Proofs.YtfhhigablibeoaaGreatDoor
namespace Go.Proofs.YtfhhigablibeoaaGreatDoor
open Go.RowKit Go.Lib Go.Sort
set_option linter.unusedVariables false
set_option maxRecDepth 20000

/-- A call as a value; none: zeroes. -/
def calO : Option Cal → Value
  | some o => .agg #[.int .i64 o.kind, .int .i64 o.op, .string ⟨o.name.toArray⟩, .int .i64 (o.cnt : Int)]
  | none => .agg #[.int .i64 0, .int .i64 0, .string ⟨#[]⟩, .int .i64 0]
def calTb : Array Value := (cals.flatMap calV).toArray
theorem calT_size : (Tryz.prog.info? 157).map (·.size) = some calTb.size := by kernel_rfl
theorem calT_at (w : World) : ∀ (k : Nat) (h : k < 10), (Instr.index 157 (.agg calTb) (.int .i64 ((k : Nat) : Int))).run Tryz.prog w = .ok (calO cals[k]?) w
  | 0, _ => by kernel_rfl
  | 1, _ => by kernel_rfl
  | 2, _ => by kernel_rfl
  | 3, _ => by kernel_rfl
  | 4, _ => by kernel_rfl
  | 5, _ => by kernel_rfl
  | 6, _ => by kernel_rfl
  | 7, _ => by kernel_rfl
  | 8, _ => by kernel_rfl
  | 9, _ => by kernel_rfl
  | k + 10, h => by omega
/-- The result's block. -/
def ResC (w : World) (b : Nat) : Prop := w.heap[b]? = some (.cells #[.int .i64 0, .int .i64 0, .string ⟨#[]⟩, .int .i64 0] 120 (0, 0))
theorem ResC.below {w w' : World} {b B : Nat} (h : ResC w b) (hB : Below B w w') (hb : b < B) : ResC w' b := (hB.block b hb).trans h
theorem ResC.cells {w : World} {b : Nat} (h : ResC w b) : w.cell? ⟨b, 0, none⟩ = some (.int .i64 0) ∧ w.cell? ⟨b, 1, none⟩ = some (.int .i64 0) ∧ w.cell? ⟨b, 2, none⟩ = some (.string ⟨#[]⟩) ∧ w.cell? ⟨b, 3, none⟩ = some (.int .i64 0) := by
  refine ⟨?_, ?_, ?_, ?_⟩ <;> (rw [Lib.cell_of_heap h]; rfl)
theorem ResC.frozen {w : World} {b : Nat} (h : ResC w b) (i : Nat) : w.frozen? ⟨b, i, none⟩ = false := Lib.frozen_of_heap h i
theorem below_putC {w w2 : World} {a b c d : Value} (h : Below w.heap.size w w2) : Below w.heap.size w ((((w2.setCell ⟨w.heap.size, 0, none⟩ a).setCell ⟨w.heap.size, 1, none⟩ b).setCell ⟨w.heap.size, 2, none⟩ c).setCell ⟨w.heap.size, 3, none⟩ d) :=
  (((h.setCell (p := ⟨w.heap.size, 0, none⟩) (Nat.le_refl _) _).setCell (p := ⟨w.heap.size, 1, none⟩) (Nat.le_refl _) _).setCell (p := ⟨w.heap.size, 2, none⟩) (Nat.le_refl _) _).setCell (p := ⟨w.heap.size, 3, none⟩) (Nat.le_refl _) _
theorem cfind_take {p : Cal → Bool} : ∀ (l : List Cal) (k : Nat) (h : k < l.length), (∀ j (hj : j < l.length), j < k → p l[j] = false) → p l[k] = true → l.find? p = some l[k]
  | a :: l, 0, h, _, hp => by simp at hp; simp [hp]
  | a :: l, k + 1, h, hn, hp => by
    have h0 : p a = false := hn 0 (by simp) (by omega)
    rw [List.find?_cons_of_neg (by simp [h0])]
    exact cfind_take l k (by simpa using h) (fun j hj hjk => hn (j + 1) (by simpa using hj) (by omega)) (by simpa using hp)
theorem cfind_none {p : Cal → Bool} (l : List Cal) (h : ∀ j (hj : j < l.length), p l[j] = false) : l.find? p = none := by
  rw [List.find?_eq_none]
  intro x hx
  obtain ⟨j, hj, rfl⟩ := List.getElem_of_mem hx
  simp [h j hj]
set_option maxHeartbeats 8000000 in
theorem callNamed_any {w : World} (s : List UInt8) (h : Gl w) :
    Calls Tryz.prog 96 #[.string ⟨s.toArray⟩] w fun e w' => e = .returned (.tuple #[calO (calN s), .bool (calN s).isSome]) ∧ Below w.heap.size w w' := by
  have hg : w.heap[2]? = some (.cells calTb 157 (0, 0)) := h.2
  have hgl := (Array.getElem?_eq_some_iff.1 hg).1
  have B0 : Below w.heap.size w (w.alloc (.cells #[.int .i64 0, .int .i64 0, .string ⟨#[]⟩, .int .i64 0] 120)) := (Below.refl _ _).alloc (Nat.le_refl _) _
  have hR := hid (show ResC (w.alloc (.cells #[.int .i64 0, .int .i64 0, .string ⟨#[]⟩, .int .i64 0] 120)) w.heap.size from heap_alloc_new w _)
  have hg1 := hid ((B0.block 2 hgl).trans hg)
  have HB0 := hid B0
  have hs0 : (w.alloc (.cells #[.int .i64 0, .int .i64 0, .string ⟨#[]⟩, .int .i64 0] 120)).heap.size = w.heap.size + 1 := by simp
  have hT := hid calT_at
  clear h B0 hg hgl
  go_enter Tryz.func96, Tryz.ntmps96
  go_upto_region 1 with fail
  refine wp_region_lit ?_
  refine wpList_load_row rfl 157 (.global 2) rfl 2 rfl 157 calTb (0, 0) _ hg1.out Tryz.underlying157 rfl calT_size ?_
  generalize calTb = V at *
  generalize hW : w.alloc _ = W at *
  clear hW
  go_wp2_with fail
  go_loopw [7] (fun i wr => ∃ k : Nat, k ≤ 10 ∧ i = .int .i64 (k : Int) ∧ Below (w.heap.size + 1) W wr ∧ ∀ j (hj : j < cals.length), j < k → (cals[j].name == s) = false) (fun i _ => 10 - (RowKit.intOf i).toNat)
  case atStart => exact ⟨0, by omega, rfl, Below.refl _ _, fun j hj h => absurd h (Nat.not_lt_zero _)⟩
  case round =>
    obtain ⟨k, hk, rfl, hbw, hno⟩ := hrel
    have HB := hid hbw
    have HN := hid hno
    have hsz := hbw.size
    have hlt2 : w.heap.size < wr.heap.size := by omega
    clear hbw hno
    by_cases hk16 : k < 10
    · have hi := fun w => hT.out w k hk16
      have hlt : (k : Int) < 10 := by omega
      have e0 : cals[k]? = some cals[k] := List.getElem?_eq_getElem (by exact hk16)
      rw [e0] at hi
      have HF := hid (fun hp => cfind_take (p := fun o => o.name == s) cals k (by exact hk16) HN.out hp)
      have HN2 := hid (fun (hp : (cals[k].name == s) = false) => (show ∀ j (hj : j < cals.length), j < k + 1 → (cals[j].name == s) = false from fun j hj h => by
        by_cases e : j = k
        · subst e; exact hp
        · exact HN.out j hj (by omega)))
      clear e0 HN
      have eop : calN s = cals.find? (fun o => o.name == s) := rfl
      rw [← eop] at HF
      generalize cals[k] = o at *
      have HBw := hid (HB0.out.trans (HB.out.mono (Nat.le_succ _)))
      have HRw := hid (hR.out.below HB.out (Nat.lt_succ_self _))
      obtain ⟨z0, z1, z2, z3⟩ := (hR.out.below HB.out (Nat.lt_succ_self _)).cells
      have zf := (hR.out.below HB.out (Nat.lt_succ_self _)).frozen
      have zf0 := zf 0
      have zf1 := zf 1
      have zf2 := zf 2
      have zf3 := zf 3
      unfold calO at hi
      simp only [] at hi
      cases hst : (o.name == s) with
      | true =>
        have HF2 := hid (HF.out hst)
        go_wp2_with fail
        rw [HF2.out]
        refine bodyPost_ret (by simp [results, Tryz.results96, go_sem, z0, z1, z2, z3, hlt2]; try rfl) rfl ?_
        exact ⟨rfl, (below_putC HBw.out).alloc (by simp [World.setCell]; omega) _⟩
      | false =>
        have HN3 := hid (HN2.out hst)
        go_wp2_with fail
        go_roundw
        case rel => exact ⟨k + 1, by omega, by go_num, HB.out.alloc (by omega) _, HN3.out⟩
        case measure => simp [RowKit.intOf]; omega
    · have hlt : ¬ (k : Int) < 10 := by omega
      have HF := hid (show calN s = none from cfind_none _ (fun j hj => HN.out j hj (by have : cals.length = 10 := rfl; omega)))
      obtain ⟨z0, z1, z2, z3⟩ := (hR.out.below HB.out (Nat.lt_succ_self _)).cells
      have zf := (hR.out.below HB.out (Nat.lt_succ_self _)).frozen
      go_wp2_with fail
      rw [HF.out]
      refine bodyPost_ret (by simp [results, Tryz.results96, go_sem, z0, z1, z2, z3]; try rfl) rfl ?_
      exact ⟨rfl, below_putC (HB0.out.trans (HB.out.mono (Nat.le_succ _)))⟩
set_option maxHeartbeats 4000000 in
theorem counts_any (o : Cal) (w : World) :
    Calls Tryz.prog 76 #[.agg #[.int .i64 o.kind, .int .i64 o.op, .string ⟨o.name.toArray⟩, .int .i64 (o.cnt : Int)]] w fun e w' => e = .returned (.bool o.all) ∧ Below w.heap.size w w' := by
  unfold Cal.all
  go_enter Tryz.func76, Tryz.ntmps76
  go_wp2
  all_goals go_ret
  all_goals refine ⟨?_, by go_grown⟩
  all_goals simp_all
end Go.Proofs.YtfhhigablibeoaaGreatDoor
