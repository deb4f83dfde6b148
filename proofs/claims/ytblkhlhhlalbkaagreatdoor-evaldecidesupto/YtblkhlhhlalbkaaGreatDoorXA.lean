/- A region that draws its order and whose last operation, a store, turns what an earlier load has read: what the loads read is asked only as long as that store has not come. No conditions. How expressions are put together in memory. Conditions: none. -/
import Derived.Deep.RegionHeld
import Derived.Maps.RangeWalk
import Derived.Test.YtblkhlhhlalbkaaGreatDoorXG
namespace Go.Proofs.YtblkhlhhlalbkaaGreatDoor
open Go
set_option linter.unusedVariables false

section
variable {P : Program} {ops : Array Oper} {Q : Exit → Act → World → Prop} {md : Region.Mode} {S : World → Prop} {z : Nat}
/-- Whatever comes up, S holds behind it, unless it is number z. -/
def wpZ (P : Program) (md : Region.Mode) (ops : Array Oper) (Q : Exit → Act → World → Prop) (S : World → Prop) (z : Nat) : Nat → Array Bool → Act → World → Prop
  | 0, listed, a, w => Region.ready md ops listed = [] ∧ Q .normal a w
  | n + 1, listed, a, w => (Region.ready md ops listed = [] → Q .normal a w) ∧ ∀ j ∈ Region.ready md ops listed, wpOp P ops Q j (fun a' w' => (j ≠ z → S w') ∧ wpZ P md ops Q S z n (listed.setIfInBounds j true) a' w') a w
theorem wpZ_any : ∀ (n : Nat) (listed : Array Bool) (a : Act) (w : World), wpZ P md ops Q S z n listed a w → wpAny P md ops Q n listed a w
  | 0, _, _, _, h => h
  | n + 1, _, _, _, h => ⟨h.1, fun j hj => wpOp_mono (fun a' w' k => wpZ_any n _ a' w' k.2) (h.2 j hj)⟩
/-- Number z waits for number i. -/
def waitsFor (md : Region.Mode) (ops : Array Oper) (z i : Nat) : Bool := ((ops[z]?).map fun o => o.after.any fun e => Region.binds md e && e.on == i).getD false
theorem not_z {listed : Array Bool} {i j : Nat} (hw : waitsFor md ops z i = true) (hj : j ∈ Region.ready md ops listed) (hi : listed.getD i true = false) : j ≠ z := by
  rintro rfl
  obtain ⟨_, o, ho, hall⟩ := mem_ready.1 hj
  unfold waitsFor at hw
  rw [ho] at hw
  simp only [Option.map_some, Option.getD_some, Array.any_eq_true, Bool.and_eq_true, beq_iff_eq] at hw
  obtain ⟨k, hk, hb, he⟩ := hw
  have := hall _ (Array.getElem_mem hk) hb
  rw [he] at this
  simp only [Array.getD] at this hi
  split at hi
  · rename_i hlt
    simp only [hlt, dif_pos] at this
    rw [this] at hi
    cases hi
  · cases hi
theorem wpZ_first {i : Nat} {oi : Oper} {v : Value} (hi : ops[i]? = some oi) (hsel : ∀ (j : Nat) (o : Oper) cs b, ops[j]? = some o → o.op ≠ .select cs b) (hw : waitsFor md ops z i = true)
    (hQ : ∀ c a w, Q (.panic c) (a.put oi.dst v) w → Q (.panic c) a w) : ∀ (n : Nat) (listed : Array Bool) (a : Act) (w : World),
      (∀ j oj, ops[j]? = some oj → j ≠ i → listed.getD j true = false → (∀ e ∈ oj.after, Region.binds md e = true → e.on ≠ i) → oi.apart ops oj = true) →
      i ∈ Region.ready md ops listed → YieldsIf P ops S oi v a → S w → wpZ P md ops Q S z n (listed.setIfInBounds i true) (a.put oi.dst v) w → wpZ P md ops Q S z (n + 1) listed a w
  | n, listed, a, w, hfree, hr, hy, hS, H => by
    have hun := (mem_ready.1 hr).1
    refine ⟨fun h => absurd hr (by rw [h]; simp), fun j hj => ?_⟩
    by_cases e : j = i
    · rw [e]
      exact hy.wpOp hi hS ⟨fun _ => hS, H⟩
    · have hjm := ready_mono hj e
      have hjz := not_z hw hj hun
      obtain ⟨hjun, oj, hoj, hall⟩ := mem_ready.1 hj
      have hnot : ∀ e' ∈ oj.after, Region.binds md e' = true → e'.on ≠ i := fun e' he hb q => by
        have h1 := hall e' he hb
        rw [q] at h1
        simp only [Array.getD] at h1 hun
        split at hun
        · rename_i hlt
          simp only [hlt, dif_pos] at h1
          rw [h1] at hun
          cases hun
        · cases hun
      match n, H with
      | 0, H =>
        rw [H.1] at hjm
        cases hjm
      | n + 1, H =>
        have h2 := wpOp_putIf hoj (hfree j oj hoj e hjun hnot) (fun cs b => hsel i oi cs b hi) (fun cs b => hsel j oj cs b hoj) hQ hy (H.2 j hjm)
        refine wpOp_mono (fun a' w' h3 => ⟨fun _ => h3.2.1 hjz, ?_⟩) h2
        refine wpZ_first hi hsel hw hQ n (listed.setIfInBounds j true) a' w' (fun k ok hk hki hku hno => hfree k ok hk hki ?_ hno) (ready_mono hr (Ne.symm e)) h3.1 (h3.2.1 hjz) ?_
        · by_cases q : j = k
          · rw [← q]; exact hjun
          · rw [getD_set_ne true q] at hku; exact hku
        · rw [Array.setIfInBounds_comm _ _ e]
          exact h3.2.2
theorem wpZ_take {i t : Nat} {oi : Oper} {v : Value} {n : Nat} {listed : Array Bool} {a : Act} {w : World} (hi : ops[i]? = some oi) (hd : oi.dst = some t)
    (hs : Region.noSelect ops = true) (hf : Region.free md ops listed i = true) (hr : (Region.ready md ops listed).contains i = true) (hw : waitsFor md ops z i = true)
    (hQ : ∀ c a w, Q (.panic c) (a.put (some t) v) w → Q (.panic c) a w) (hy : YieldsIf P ops S oi v a) (hS : S w)
    (h : wpZ P md ops Q S z n (listed.setIfInBounds i true) (a.put (some t) v) w) : wpZ P md ops Q S z (n + 1) listed a w :=
  wpZ_first hi (Region.noSelect_spec hs) hw (by rw [hd]; exact hQ) n listed a w (Region.free_spec hi hf) (by simpa using hr) hy hS (by rw [hd]; exact h)
/-- One alone may come up. -/
theorem wpZ_step {i : Nat} {o : Oper} {n : Nat} {listed : Array Bool} {a : Act} {w : World} (hr : Region.ready md ops listed = [i]) (ho : ops[i]? = some o)
    (h : ∀ K : Act → World → Prop, Shut (∀ a' w', (i ≠ z → S w') → ((i ≠ z → S w') → wpZ P md ops Q S z n (listed.setIfInBounds i true) a' w') → K a' w') → if Region.wanted o (yielded ops a.tmps) = true then Oper.wp P o a w K Q else K (a.put o.dst undef) w) :
    wpZ P md ops Q S z (n + 1) listed a w := by
  refine ⟨fun h0 => ?_, fun j hj => ?_⟩
  · rw [hr] at h0
    cases h0
  · rw [hr] at hj
    obtain rfl : j = i := by simpa using hj
    exact wpOp_step ho (fun K hK => h K (fun a' w' h1 h2 => hK a' w' ⟨h1, h2 h1⟩))
theorem wpZ_done {listed : Array Bool} {a : Act} {w : World} {n : Nat} (hr : Region.ready md ops listed = []) (h : Q .normal a w) : wpZ P md ops Q S z n listed a w :=
  match n with
  | 0 => ⟨hr, h⟩
  | _ + 1 => ⟨fun _ => h, by rw [hr]; simp⟩
theorem wp_region_z {id : Nat} {a : Act} {w : World} (hm : P.follows .mixedOrders = true) (hS : S w.drew)
    (h : S w.drew → wpZ P .any ops Q S z ops.size (Array.replicate ops.size false) a w.drew) : (Code.region id ops true).wp P Q a w :=
  wp_region_any hm (wpZ_any _ _ _ _ (h hS))
end
end Go.Proofs.YtblkhlhhlalbkaaGreatDoor
namespace Go.Proofs.YtblkhlhhlalbkaaGreatDoor
open Go.RowKit Go.Lib Go.Sort
set_option linter.unusedVariables false
set_option maxRecDepth 20000

theorem wpZ_two {P : Program} {ops : Array Oper} {Q : Exit → Act → World → Prop} {md : Region.Mode} {S : World → Prop} {z i j : Nat} {o o' : Oper} {n : Nat} {listed : Array Bool} {a : Act} {w : World} (hr : Region.ready md ops listed = [i, j]) (ho : ops[i]? = some o) (ho' : ops[j]? = some o')
    (h : ∀ K : Act → World → Prop, Shut (∀ a' w', (i ≠ z → S w') → ((i ≠ z → S w') → wpZ P md ops Q S z n (listed.setIfInBounds i true) a' w') → K a' w') → if Region.wanted o (yielded ops a.tmps) = true then Oper.wp P o a w K Q else K (a.put o.dst undef) w)
    (h' : ∀ K : Act → World → Prop, Shut (∀ a' w', (j ≠ z → S w') → ((j ≠ z → S w') → wpZ P md ops Q S z n (listed.setIfInBounds j true) a' w') → K a' w') → if Region.wanted o' (yielded ops a.tmps) = true then Oper.wp P o' a w K Q else K (a.put o'.dst undef) w) :
    wpZ P md ops Q S z (n + 1) listed a w := by
  refine ⟨fun h0 => ?_, fun q hq => ?_⟩
  · rw [hr] at h0
    cases h0
  · rw [hr] at hq
    simp only [List.mem_cons, List.not_mem_nil, or_false] at hq
    rcases hq with rfl | rfl
    · exact wpOp_step ho (fun K hK => h K (fun a' w' h1 h2 => hK a' w' ⟨h1, h2 h1⟩))
    · exact wpOp_step ho' (fun K hK => h' K (fun a' w' h1 h2 => hK a' w' ⟨h1, h2 h1⟩))
theorem chg_trans {rb : Nat} {a b c : World} (h : Chg (· = rb) a b) (k : Chg (· = rb) b c) : Chg (· = rb) a c := h.trans k (fun _ _ q => q)
theorem chg_below {rb : Nat} {a b : World} (h : Below a.heap.size a b) : Chg (· = rb) a b := Chg.of_below h
theorem albl (w : World) (o : Obj) : Below w.heap.size w (w.alloc o) := (Below.refl _ _).alloc (Nat.le_refl _) _
theorem chg_set {rb i : Nat} {a b : World} (h : Chg (· = rb) a b) (v : Value) : Chg (· = rb) a (b.setCell ⟨rb, i, none⟩ v) := Chg.setCell (F := (· = rb)) (p := ⟨rb, i, none⟩) h (Or.inl rfl) _
theorem chg_new {rb b : Nat} {a x y : World} (h : Chg (· = rb) a x) (hb : a.heap.size ≤ b) (k : Chg (· = b) x y) : Chg (· = rb) a y :=
  h.trans k (fun j hj q => absurd q (by omega))
theorem alc2 (a : World) (x y : Obj) : ((a.alloc x).alloc y).heap.size = a.heap.size + 2 ∧ ((a.alloc x).alloc y).heap[a.heap.size]? = some x ∧ ((a.alloc x).alloc y).heap[a.heap.size + 1]? = some y := by
  have s1 : (a.alloc x).heap.size = a.heap.size + 1 := by simp
  have e1 := heap_alloc_new a x
  have e2 := heap_alloc_new (a.alloc x) y
  rw [s1] at e2
  exact ⟨by simp, (Lib.alloc_old _ _ _ (by omega)).trans e1, e2⟩
theorem alc3 (a : World) (x y z : Obj) : (((a.alloc x).alloc y).alloc z).heap.size = a.heap.size + 3 ∧ (((a.alloc x).alloc y).alloc z).heap[a.heap.size]? = some x ∧ (((a.alloc x).alloc y).alloc z).heap[a.heap.size + 1]? = some y ∧ (((a.alloc x).alloc y).alloc z).heap[a.heap.size + 2]? = some z := by
  obtain ⟨s2, e1, e2⟩ := alc2 a x y
  have e3 := heap_alloc_new ((a.alloc x).alloc y) z
  rw [s2] at e3
  exact ⟨by simp, (Lib.alloc_old _ _ _ (by omega)).trans e1, (Lib.alloc_old _ _ _ (by omega)).trans e2, e3⟩
/-- A row of operands in a block. -/
theorem eat_cons {w : World} {F : Nat → Prop} {g : Nat} {e : Ex} (hF : F g) (hz : ∀ i, w.frozen? ⟨g, i, none⟩ = false) (h : ∀ i (h : i < e.xs.length), ∃ q c k, XC w g (i * 10) e.xs[i] q c ∧ EAt w F k e.xs[i] q ∧ e.xs[i].xs.length ≤ c) : ∃ k, EAt w F k e (some ⟨g, 0, none⟩) := by
  have key : ∀ m, m ≤ e.xs.length → ∃ K, ∀ i (h : i < e.xs.length), i < m → ∃ q c, XC w g (i * 10) e.xs[i] q c ∧ EAt w F K e.xs[i] q ∧ e.xs[i].xs.length ≤ c := by
    intro m
    induction m with
    | zero => exact fun _ => ⟨0, fun i _ h => absurd h (Nat.not_lt_zero _)⟩
    | succ m ih =>
      intro hm
      obtain ⟨K, hK⟩ := ih (by omega)
      obtain ⟨q, c, k, h1, h2, h5⟩ := h m (by omega)
      refine ⟨K + k, fun i hi him => ?_⟩
      by_cases e : i = m
      · subst e; exact ⟨q, c, h1, h2.le (by omega), h5⟩
      · obtain ⟨q', c', h3, h4, h6⟩ := hK i hi (by omega)
        exact ⟨q', c', h3, h4.le (by omega), h6⟩
  obtain ⟨K, hK⟩ := key e.xs.length (Nat.le_refl _)
  refine ⟨K + 1, Or.inr ⟨g, 0, rfl, hF, fun i hi => ?_⟩⟩
  obtain ⟨q, c, h1, h2, h5⟩ := hK i hi hi
  exact ⟨q, c, by rw [Nat.zero_add]; exact h1, h2, h5, hz _⟩
theorem mk_one {w : World} {F : Nat → Prop} {g : Nat} {x : Ex} {px : Option Addr} {cx k1 : Nat} (k op : Int) (hF : F g)
    (hc : w.heap[g]? = some (.cells #[.int .i64 x.k, .int .i64 x.op, .int .i64 x.v.k, .int .i64 x.v.n, .string x.v.s, .string ⟨x.t.toArray⟩, .string ⟨x.n.toArray⟩, .int .i64 0, .int .i64 0, .slice px x.xs.length cx] 26 (0, 0)))
    (h1 : EAt w F k1 x px) (hcx : x.xs.length ≤ cx) : ∃ k', EAt w F k' (mkE k op [x]) (some ⟨g, 0, none⟩) := by
  refine eat_cons hF (Lib.frozen_of_heap hc) (fun i hi => ?_)
  match i, hi with
  | 0, _ =>
    refine ⟨px, cx, k1, ?_, h1, hcx⟩
    refine ⟨?_, ?_, ?_, ?_, ?_, ?_, ?_, ?_, ?_, ?_⟩ <;> (rw [Lib.cell_of_heap hc]; rfl)
theorem mk_two {w : World} {F : Nat → Prop} {g : Nat} {x y : Ex} {px py : Option Addr} {cx cy k1 k2 : Nat} (k op : Int) (hF : F g)
    (hc : w.heap[g]? = some (.cells #[.int .i64 x.k, .int .i64 x.op, .int .i64 x.v.k, .int .i64 x.v.n, .string x.v.s, .string ⟨x.t.toArray⟩, .string ⟨x.n.toArray⟩, .int .i64 0, .int .i64 0, .slice px x.xs.length cx, .int .i64 y.k, .int .i64 y.op, .int .i64 y.v.k, .int .i64 y.v.n, .string y.v.s, .string ⟨y.t.toArray⟩, .string ⟨y.n.toArray⟩, .int .i64 0, .int .i64 0, .slice py y.xs.length cy] 26 (0, 0)))
    (h1 : EAt w F k1 x px) (h2 : EAt w F k2 y py) (hcx : x.xs.length ≤ cx) (hcy : y.xs.length ≤ cy) : ∃ k', EAt w F k' (mkE k op [x, y]) (some ⟨g, 0, none⟩) := by
  refine eat_cons hF (Lib.frozen_of_heap hc) (fun i hi => ?_)
  match i, hi with
  | 0, _ =>
    refine ⟨px, cx, k1, ?_, h1, hcx⟩
    refine ⟨?_, ?_, ?_, ?_, ?_, ?_, ?_, ?_, ?_, ?_⟩ <;> (rw [Lib.cell_of_heap hc]; rfl)
  | 1, _ =>
    refine ⟨py, cy, k2, ?_, h2, hcy⟩
    refine ⟨?_, ?_, ?_, ?_, ?_, ?_, ?_, ?_, ?_, ?_⟩ <;> (rw [Lib.cell_of_heap hc]; rfl)
/-- What lies in old blocks stays, where only a set of other blocks is turned. -/
theorem EAt.old {w0 w w' : World} {G : Nat → Prop} {N k : Nat} {e : Ex} {p : Option Addr} (h : EAt w (N ≤ ·) k e p) (C : Chg G w w') (hG : ∀ b, N ≤ b → b < w.heap.size → ¬ G b) : EAt w' (N ≤ ·) k e p := by
  have h1 := h.mono (G := fun b => N ≤ b ∧ b < w.heap.size) (fun b hb q => ⟨q, hb⟩)
  exact (h1.chg C (fun b q => hG b q.1 q.2)).mono (fun b _ q => q.1)
/-- The end of a function whose result is an expression. -/
theorem finX {w X : World} {F : Nat → Prop} {rb b : Nat} {p : Option Addr} {c : Nat} {xs l0 l : Ts} {d0 d k ce : Nat} {e : Ex} {pe : Option Addr} (h0 : RS w rb p c xs l0 d0) (C : Chg (· = rb) w X) (hb : w.heap.size ≤ b) (hr : RS X rb p c xs l d) (hE : EAt X (fun j => F j ∧ j ≠ b) k e pe) (hcap : e.xs.length ≤ ce) :
    RdE (QF F) rb p c xs d (.ok (e, l)) w (.returned (.agg #[.int .i64 e.k, .int .i64 e.op, .int .i64 e.v.k, .int .i64 e.v.n, .string e.v.s, .string ⟨e.t.toArray⟩, .string ⟨e.n.toArray⟩, .int .i64 0, .int .i64 0, .slice pe e.xs.length ce])) (put10 X b (.int .i64 e.k) (.int .i64 e.op) (.int .i64 e.v.k) (.int .i64 e.v.n) (.string e.v.s) (.string ⟨e.t.toArray⟩) (.string ⟨e.n.toArray⟩) (.int .i64 0) (.int .i64 0) (.slice pe e.xs.length ce)) := by
  have K := put10_chg X b (.int .i64 e.k) (.int .i64 e.op) (.int .i64 e.v.k) (.int .i64 e.v.n) (.string e.v.s) (.string ⟨e.t.toArray⟩) (.string ⟨e.n.toArray⟩) (.int .i64 0) (.int .i64 0) (.slice pe e.xs.length ce)
  exact ⟨chg_new C hb K, _, rfl, ⟨pe, ce, rfl, k, (hE.chg K (fun j q r => q.2 r)).mono (fun j _ q => q.1), hcap⟩, h0.fresh hr hb K⟩
/-- An older expression, behind what was turned since. -/
theorem EAt.keep {w X : World} {F F' : Nat → Prop} {rb k : Nat} {e : Ex} {p : Option Addr} (h : EAt w F k e p) (C : Chg (· = rb) w X) (hrb : ∀ j, F j → j ≠ rb) (hF : ∀ j, F j → j < w.heap.size → F' j) : EAt X F' k e p := by
  have h1 := h.mono (G := fun j => F j ∧ j < w.heap.size) (fun j hj q => ⟨q, hj⟩)
  exact (h1.chg C (fun j q r => hrb j q.1 r)).mono (fun j _ q => hF j q.1 q.2)
/-- A newer one. -/
theorem EAt.newer {w X : World} {F F' : Nat → Prop} {k : Nat} {e : Ex} {p : Option Addr} (h : EAt w F k e p) (B : Below w.heap.size w X) (hF : ∀ j, F j → F' j) : EAt X F' k e p :=
  ((h.chg (G := fun _ => False) (Chg.of_below B) (fun _ _ q => q)).mono (fun j _ q => hF j q))
end Go.Proofs.YtblkhlhhlalbkaaGreatDoor
