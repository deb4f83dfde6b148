/- The blocks of the document's one: the result's, and the token's. Nothing of the program but the type. -/
import Derived.Test.YtbaemjibaeeglaaGreatDoorLxROneP
namespace Go.Proofs.YtbaemjibaeeglaaGreatDoor
open Go.RowKit Go.Lib Go.Sort
set_option linter.unusedVariables false

/-- A token's cells in a block. -/
structure TC (w : World) (b : Nat) (K : Int) (X : ByteArray) (P I : Int) : Prop where
  c0 : w.cell? ⟨b, 0, none⟩ = some (.int .i64 K)
  c1 : w.cell? ⟨b, 1, none⟩ = some (.string X)
  c2 : w.cell? ⟨b, 2, none⟩ = some (.int .i64 P)
  c3 : w.cell? ⟨b, 3, none⟩ = some (.int .i64 I)
  fz : ∀ j, w.frozen? ⟨b, j, none⟩ = false
  lt : b < w.heap.size
theorem tc_of {w : World} {b : Nat} {K : Int} {X : ByteArray} {P I : Int} (h : w.heap[b]? = some (.cells #[.int .i64 K, .string X, .int .i64 P, .int .i64 I] 38 (0, 0))) : TC w b K X P I := by
  refine ⟨?_, ?_, ?_, ?_, fun j => Lib.frozen_of_heap h j, (Array.getElem?_eq_some_iff.1 h).1⟩ <;> (rw [Lib.cell_of_heap h]; rfl)
theorem TC.below {w w' : World} {b B : Nat} {K : Int} {X : ByteArray} {P I : Int} (h : TC w b K X P I) (hb : Below B w w') (hB : b < B) : TC w' b K X P I := by
  have e := hb.block b hB
  refine ⟨?_, ?_, ?_, ?_, fun j => ?_, ?_⟩
  · rw [← h.c0]; simp [World.cell?, e]
  · rw [← h.c1]; simp [World.cell?, e]
  · rw [← h.c2]; simp [World.cell?, e]
  · rw [← h.c3]; simp [World.cell?, e]
  · rw [← h.fz j]; simp [World.frozen?, e]
  · have := h.lt
    have hs := hb.size
    rcases Nat.lt_or_ge b w'.heap.size with h' | h'
    · exact h'
    · exfalso
      have e1 := Array.getElem?_eq_none h'
      rw [e] at e1
      have := Array.getElem?_eq_none_iff.1 e1
      omega
theorem w1_below (w : World) (o o' : Obj) : Below w.heap.size w ((w.alloc o).alloc o') :=
  ((Below.refl _ _).alloc (Nat.le_refl _) _).alloc (by simp) _
theorem w1_size (w : World) (o o' : Obj) : ((w.alloc o).alloc o').heap.size = w.heap.size + 2 := by simp
theorem w1_res (w : World) (o' : Obj) : TC ((w.alloc (.cells #[.int .i64 0, .string ⟨#[]⟩, .int .i64 0, .int .i64 0] 38)).alloc o') w.heap.size 0 ⟨#[]⟩ 0 0 :=
  tc_of ((Lib.alloc_old _ _ _ (by simp)).trans (heap_alloc_new w _))
theorem w1_tok (w : World) (o : Obj) (K : Int) (X : ByteArray) (P I : Int) : TC ((w.alloc o).alloc (.cells #[.int .i64 K, .string X, .int .i64 P, .int .i64 I] 38)) (w.heap.size + 1) K X P I := by
  have e : (w.alloc o).heap.size = w.heap.size + 1 := by simp
  have := heap_alloc_new (w.alloc o) (.cells #[.int .i64 K, .string X, .int .i64 P, .int .i64 I] 38)
  rw [e] at this
  exact tc_of this
/-- What stands behind a call that is made when both blocks lie there. -/
structure Aft (w w2 : World) (K : Int) (X : ByteArray) (P I : Int) : Prop where
  res : TC w2 w.heap.size 0 ⟨#[]⟩ 0 0
  tok : TC w2 (w.heap.size + 1) K X P I
  bel : Below w.heap.size w w2
theorem aft0 (w : World) (K : Int) (P I : Int) : Aft w ((w.alloc (.cells #[.int .i64 0, .string ⟨#[]⟩, .int .i64 0, .int .i64 0] 38)).alloc (.cells #[.int .i64 K, .string ⟨#[]⟩, .int .i64 P, .int .i64 I] 38)) K ⟨#[]⟩ P I :=
  ⟨w1_res _ _, w1_tok _ _ _ _ _ _, w1_below _ _ _⟩
theorem aft1 (w : World) (K : Int) (X : ByteArray) (P I : Int) : Aft w ((w.alloc (.cells #[.int .i64 0, .string ⟨#[]⟩, .int .i64 0, .int .i64 0] 38)).alloc (.cells #[.int .i64 K, .string X, .int .i64 P, .int .i64 I] 38)) K X P I :=
  ⟨w1_res _ _, w1_tok _ _ _ _ _ _, w1_below _ _ _⟩
theorem Aft.next {w w1 w2 : World} {K : Int} {X : ByteArray} {P I : Int} (h : Aft w w1 K X P I) (hb : Below w1.heap.size w1 w2) : Aft w w2 K X P I :=
  ⟨h.res.below hb h.res.lt, h.tok.below hb h.tok.lt, h.bel.trans (hb.mono h.bel.size)⟩
theorem Aft.set0 {w w1 : World} {K : Int} {X : ByteArray} {P I : Int} (h : Aft w w1 K X P I) (K' : Int) : Aft w (w1.setCell ⟨w.heap.size + 1, 0, none⟩ (.int .i64 K')) K' X P I := by
  obtain ⟨r, t, b⟩ := h
  obtain ⟨r0, r1, r2, r3, rf, rl⟩ := r
  obtain ⟨t0, t1, t2, t3, tf, tl⟩ := t
  refine ⟨⟨?_, ?_, ?_, ?_, fun j => ?_, ?_⟩, ⟨?_, ?_, ?_, ?_, fun j => ?_, ?_⟩, ?_⟩
  all_goals first
    | (go_simp; done)
    | exact b.setCell (p := ⟨w.heap.size + 1, 0, none⟩) (Nat.le_succ _) _
    | (simp; assumption)
    | trace_state
theorem Aft.put {w w1 : World} {K : Int} {X Y : ByteArray} {P I : Int} {x0 x1 x2 x3 : Value} (h : Aft w w1 K X P I) : Below w.heap.size w ((((w1.setCell ⟨w.heap.size, 0, none⟩ x0).setCell ⟨w.heap.size, 1, none⟩ x1).setCell ⟨w.heap.size, 2, none⟩ x2).setCell ⟨w.heap.size, 3, none⟩ x3) := below_put4 h.bel
theorem below_put5 {w w1 : World} {x x0 x1 x2 x3 : Value} {j : Nat} (h : Below w.heap.size w w1) : Below w.heap.size w (((((w1.setCell ⟨w.heap.size + 1, j, none⟩ x).setCell ⟨w.heap.size, 0, none⟩ x0).setCell ⟨w.heap.size, 1, none⟩ x1).setCell ⟨w.heap.size, 2, none⟩ x2).setCell ⟨w.heap.size, 3, none⟩ x3) :=
  below_put4 (h.setCell (p := ⟨w.heap.size + 1, j, none⟩) (Nat.le_succ _) _)
theorem below_put6 {w w1 : World} {x y x0 x1 x2 x3 : Value} {i j : Nat} (h : Below w.heap.size w w1) : Below w.heap.size w ((((((w1.setCell ⟨w.heap.size + 1, i, none⟩ y).setCell ⟨w.heap.size + 1, j, none⟩ x).setCell ⟨w.heap.size, 0, none⟩ x0).setCell ⟨w.heap.size, 1, none⟩ x1).setCell ⟨w.heap.size, 2, none⟩ x2).setCell ⟨w.heap.size, 3, none⟩ x3) :=
  below_put5 (h.setCell (p := ⟨w.heap.size + 1, i, none⟩) (Nat.le_succ _) _)
theorem one_txt {K : Int} {p E : Nat} {X : ByteArray} {x : Option (List UInt8 × Nat)} {R : Option (Tk × Nat)} (hR : mapK K x = R) (h : ∀ y, x.map (fun x => (x.1, x.2 + p)) = some y → X = ⟨y.1.toArray⟩ ∧ E = y.2) :
    qb (x.map fun x => (x.1, x.2 + p)) = R.isSome ∧ ∀ y, R = some y → K = y.1.k ∧ X = ⟨y.1.s.toArray⟩ ∧ 0 = y.1.n ∧ E = p + y.2 := by
  subst hR
  cases x with
  | none => exact ⟨rfl, fun y h => by cases h⟩
  | some x =>
    obtain ⟨rfl, rfl⟩ := h _ rfl
    refine ⟨rfl, fun y h => ?_⟩
    cases h
    exact ⟨rfl, rfl, rfl, Nat.add_comm _ _⟩
end Go.Proofs.YtbaemjibaeeglaaGreatDoor
