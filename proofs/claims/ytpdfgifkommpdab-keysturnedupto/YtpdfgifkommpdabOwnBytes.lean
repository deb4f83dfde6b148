/- What owning bytes gives. No conditions. -/
import Derived.Test.YtpdfgifkommpdabKeysPlain
import Derived.Laws.IdiomStrings
import Derived.Handy
import Derived.Lib.QuietBelow
import Derived.Deep.AppendLies
import Derived.Deep.RegionLaw
namespace Go.Proofs.Ytpdfgifkommpdab
open Go.RowKit Go.Lib Go.Sort
set_option linter.unusedVariables false

theorem infoByte : (Try.prog.info? 5).map (fun i => (i.zero, i.size, i.bytes)) = some (some (.int .u8 0), 1, 1) := by kernel_rfl
def bcells (l : List UInt8) : List Value := l.map fun b => Value.int .u8 b.toNat
/-- A row of bytes that the call owns; nil, if it has none yet. -/
def OwnB (w : World) (base : Nat) (v : Value) (l : List UInt8) : Prop := w.ownsRow base 5 1 v l.length (bcells l)

theorem own_nil (w : World) (base : Nat) : OwnB w base (.slice none 0 0) [] := World.ownsRow_nil w base _ _

theorem conv_own {w : World} {base : Nat} {v : Value} {l : List UInt8} (h : OwnB w base v l) : (convert 27 9 v).run Try.prog w = .ok (.string ⟨l.toArray⟩) w := by
  obtain ⟨hl, h2⟩ := h
  rcases h2 with ⟨h0, h1⟩ | ⟨g, cap, cur, hv, hg, hh, hle, hm, hs, ht⟩
  · subst h0
    obtain rfl : l = [] := List.length_eq_zero_iff.1 h1
    have := run_convert_bytes_string (P := Try.prog) w 27 9 5 none 0 0 Try.underlying27 Try.underlying5 Try.underlying9
    rw [this]
    rfl
  · subst hv
    refine run_convert_bytes_back (P := Try.prog) w 27 9 5 ⟨g, 0, none⟩ cap l Try.underlying27 Try.underlying5 Try.underlying9 (fun j hj => ?_)
    have hu : (bcells l)[j]? = some (.int .u8 l[j].toNat) := by simp [bcells, hj]
    rw [← ht, List.getElem?_take, if_pos (by omega), Array.getElem?_toList] at hu
    rw [show (⟨g, 0, none⟩ : Addr).add j = ⟨g, 0 + j, none⟩ by unfold Addr.add; split <;> simp_all]
    simp [World.cell?, hh, hu]

theorem bcells_snoc (l : List UInt8) (c : UInt8) (n : Int) (h : (c.toNat : Int) = n) : bcells l ++ [.int .u8 n] = bcells (l ++ [c]) := by subst h; simp [bcells]
theorem own_snoc {w' : World} {base : Nat} {l : List UInt8} {c : UInt8} {n : Int} {g cap m : Nat} (hm : l.length = m) (hn : (c.toNat : Int) = n) (h : w'.ownsRow base 5 1 (.slice (some ⟨g, 0, none⟩) (m + 1) cap) (m + 1) (bcells l ++ [.int .u8 n])) :
    OwnB w' base (.slice (some ⟨g, 0, none⟩) (m + 1) cap) (l ++ [c]) := by
  subst hm
  unfold OwnB
  rw [List.length_append, ← bcells_snoc l c n hn]
  exact h
theorem take_snoc' (s : ByteArray) (k : Nat) (h : k < s.size) : s.data.toList.take (k + 1) = s.data.toList.take k ++ [s[k]'h] := by
  rw [List.take_succ_eq_append_getElem (by simpa using h)]; rfl

/-- A writer at a block: its bytes, its mask. -/
structure Wr (w : World) (wb : Nat) (m : Int) (l : List UInt8) (v : Value) : Prop where
  own : OwnB w (wb + 1) v l
  c0 : w.cell? ⟨wb, 0, none⟩ = some v
  c1 : w.cell? ⟨wb, 1, none⟩ = some (.int .u8 m)
  f0 : w.frozen? ⟨wb, 0, none⟩ = false
  f1 : w.frozen? ⟨wb, 1, none⟩ = false

/-- But for a block and the row that was owned, what was there is as it was. -/
structure Past (wb : Nat) (v v' : Value) (w w' : World) : Prop where
  os : w'.os = w.os
  tape : w'.tape = w.tape
  output : w'.output = w.output
  size : w.heap.size ≤ w'.heap.size
  block : ∀ k, k < w.heap.size → k ≠ wb → v.ownBlock ≠ some k → w'.heap[k]? = w.heap[k]?
  own : ∀ k, k < w.heap.size → v.ownBlock ≠ some k → v'.ownBlock ≠ some k

theorem Past.refl (wb : Nat) (v : Value) (w : World) : Past wb v v w w := ⟨rfl, rfl, rfl, Nat.le_refl _, fun _ _ _ _ => rfl, fun _ _ h => h⟩
theorem Past.trans {wb : Nat} {v1 v2 v3 : Value} {a b c : World} (h : Past wb v1 v2 a b) (k : Past wb v2 v3 b c) : Past wb v1 v3 a c :=
  ⟨k.os.trans h.os, k.tape.trans h.tape, k.output.trans h.output, Nat.le_trans h.size k.size,
   fun i hi hn ho => (k.block i (Nat.lt_of_lt_of_le hi h.size) hn (h.own i hi ho)).trans (h.block i hi hn ho),
   fun i hi ho => k.own i (Nat.lt_of_lt_of_le hi h.size) (h.own i hi ho)⟩
theorem Past.below {wb : Nat} {v v' : Value} {w w' : World} (h : Past wb v v' w w') (hw : wb ≤ w.heap.size) (hv : ∀ k, v.ownBlock = some k → wb + 1 ≤ k) : Below wb w w' :=
  ⟨h.os, h.tape, h.output, h.size, fun k hk => h.block k (by omega) (by omega) (fun e => by have := hv k e; omega)⟩
theorem Past.cell {wb : Nat} {v v' : Value} {w w' : World} (h : Past wb v v' w w') {b o : Nat} {x : Value} (hc : w.cell? ⟨b, o, none⟩ = some x) (hn : b ≠ wb) (ho : v.ownBlock ≠ some b) : w'.cell? ⟨b, o, none⟩ = some x := by
  have hl := cell_lt hc
  exact (World.cell?_of_block (h.block b hl hn ho)).trans hc
/-- A block that is made is none of them. -/
theorem Past.alloc (wb : Nat) (v : Value) (w : World) (o : Obj) : Past wb v v w (w.alloc o) :=
  ⟨rfl, rfl, rfl, by simp, fun k hk _ _ => Below.heap_alloc _ _ _ hk, fun _ _ h => h⟩
theorem Wr.lt {w : World} {wb : Nat} {m : Int} {l : List UInt8} {v : Value} (h : Wr w wb m l v) : wb < w.heap.size := cell_lt h.c0
theorem Wr.alloc {w : World} {wb : Nat} {m : Int} {l : List UInt8} {v : Value} (h : Wr w wb m l v) (o : Obj) : Wr (w.alloc o) wb m l v :=
  have B : Below w.heap.size w (w.alloc o) := (Below.refl _ _).alloc (Nat.le_refl _) o
  ⟨h.own.alloc o, below_cell B h.c0, below_cell B h.c1, (B.frozen h.lt).trans h.f0, (B.frozen h.lt).trans h.f1⟩
theorem Wr.fresh {w : World} {wb : Nat} {m : Int} {l : List UInt8} {v : Value} (h : Wr w wb m l v) : v.ownBlock ≠ some w.heap.size := fun e => by
  have := (h.own.lt _ e).2
  omega
theorem Wr.ge {w : World} {wb : Nat} {m : Int} {l : List UInt8} {v : Value} (h : Wr w wb m l v) : ∀ k, v.ownBlock = some k → wb + 1 ≤ k := fun k e => (h.own.lt k e).1
theorem below_new {w w1 : World} {o : Obj} (h : Below (w.alloc o).heap.size (w.alloc o) w1) : Below w.heap.size w w1 :=
  ((Below.refl w.heap.size w).alloc (Nat.le_refl _) o).trans (h.mono (by simp))
theorem hid {p : Prop} (h : p) : Hid p := h
/-- The end of a function without results. -/
theorem end0 {P : Program} {fn : Func} {R : Ending → World → Prop} {a : Act} {w : World} (hr : fn.results = #[]) (hd : a.defers = []) (hR : R (.returned (.tuple #[])) w) : bodyPost P fn R .normal a w :=
  ⟨hd, .tuple #[], by simp [results, hr, go_sem], hR⟩
end Go.Proofs.Ytpdfgifkommpdab
