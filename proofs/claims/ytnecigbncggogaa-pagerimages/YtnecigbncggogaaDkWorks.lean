/- works answers true: a disk does what it must at one plain row of acts. No conditions. -/
import Derived.Test.YtnecigbncggogaaDkLaw
namespace Go.Proofs.Ytnecigbncggogaa
open Go.RowKit
set_option linter.unusedVariables false
set_option maxRecDepth 20000

/-- A disk with power and no end of steps. -/
structure Dk.free (d : Dk) : Prop where
  down : d.down = false
  arm : d.arm = -1
theorem Dk.fresh_free (n : Nat) : (Dk.fresh n).free := ⟨rfl, rfl⟩
theorem Dk.free.stepped {d : Dk} (h : d.free) : d.stepped = d := by
  unfold Dk.stepped
  rw [h.arm, if_neg (by decide), if_neg (by decide)]
theorem Dk.free.reach {d : Dk} (h : d.free) {n : Int} (h0 : 0 ≤ n) (h1 : n < d.pages) : d.reach n = 0 := by
  unfold Dk.reach
  rw [h.down, if_neg (by simp), if_neg (by omega)]
theorem Dk.free.wr {d : Dk} (h : d.free) {n : Int} {b : List UInt8} (h0 : 0 ≤ n) (h1 : n < d.pages) (hb : b.length = 512) : d.wrErr n b = 0 ∧ d.wr n b = d.push n b := by
  unfold Dk.wrErr Dk.wr
  have e1 : ¬ ((0 : Int) ≠ 0) := by simp
  have e2 : ¬ (b.length ≠ 512) := by simpa using hb
  have e3 : ¬ (d.arm = 0) := by rw [h.arm]; decide
  rw [h.reach h0 h1]
  simp only [if_neg e1, if_neg e2, if_neg e3, h.stepped]
  exact ⟨trivial, trivial⟩
theorem Dk.free.push {d : Dk} (h : d.free) (n : Int) (b : List UInt8) : (d.push n b).free := ⟨h.down, h.arm⟩
theorem Dk.mended_free (d : Dk) (keep : List Bool) (torn cut : Int) : (d.mended keep torn cut).free := ⟨rfl, rfl⟩
theorem Dk.free.sy {d : Dk} (h : d.free) : d.syErr = 0 ∧ d.sy = d.settled (fun _ => 512) := by
  unfold Dk.syErr Dk.sy
  have e3 : ¬ (d.arm = 0) := by rw [h.arm]; decide
  simp only [h.down, Bool.false_eq_true, if_false, if_neg e3, h.stepped]
  exact ⟨trivial, trivial⟩
theorem Dk.free.settled {d : Dk} (h : d.free) (c : Nat → Nat) : (d.settled c).free := ⟨h.down, h.arm⟩
def wA : List UInt8 := pageM 1 [] 512
def wB : List UInt8 := pageM 2 [] 512
def wC : List UInt8 := pageM 3 [] 512
def wD3 : Dk := (((Dk.fresh 4).push 1 wA).push 1 wB).push 2 wC
def wD4 : Dk := wD3.mended [true] 2 1
theorem wD3_has : wD3.has 1 = wB := rfl
theorem page_nil (f : UInt8) (m : Nat) : pageM f [] m = fills f m := by unfold pageM; simp [over]
theorem wA_len : wA.length = 512 := pageM_len ..
theorem wB_len : wB.length = 512 := pageM_len ..
theorem wC_len : wC.length = 512 := pageM_len ..
theorem wD4_has1 : wD4.has 1 = wA := by
  have e : wD4.has 1 = over (wB.take 0) (over (wA.take 512) zero512) := rfl
  rw [e, List.take_zero, over_nil, List.take_of_length_le (by rw [wA_len]; omega), over_all (by rw [wA_len, zero512_len])]
theorem wD4_has2 : wD4.has 2 = over (wC.take 1) zero512 := rfl
theorem fills_at (f : UInt8) (m i : Nat) (h : i < m) : (fills f m)[i]? = some f := by unfold fills; rw [List.getElem?_replicate, if_pos h]
theorem Pg.cell {w : World} {g : Nat} {l : List UInt8} (h : Pg w g l) {i : Nat} {c : UInt8} (hc : l[i]? = some c) : w.cell? ⟨g, i, none⟩ = some (.int .u8 (c.toNat : Int)) := by
  rw [h.blk.cell i]
  unfold bcells
  rw [List.getElem?_map, hc]
  rfl
theorem Pg.chg {F : Nat → Prop} {w w' : World} {g : Nat} {l : List UInt8} (h : Pg w g l) (c : Chg F w w') (hn : ¬ F g) : Pg w' g l := h.blk.chg c hn
theorem Pg.below {w w' : World} {g B : Nat} {l : List UInt8} (h : Pg w g l) (c : Below B w w') (hn : g < B) : Pg w' g l := h.blk.below c hn
theorem Blk.byts {w : World} {g : Nat} {l : List UInt8} {t : TypeId} (h : Blk w g (bcells l) t) : Byts w (some ⟨g, 0, none⟩) l :=
  Or.inr ⟨g, 0, rfl, fun i hi => by rw [Nat.zero_add, h.cell i]; exact bcells_at hi⟩
theorem over1 (c : UInt8) (l : List UInt8) (hl : 1 < l.length) : (over [c] l)[0]? = some c ∧ (over [c] l)[1]? = l[1]? := by
  unfold over
  refine ⟨rfl, ?_⟩
  show (l.drop 1)[0]? = _
  rw [List.getElem?_drop]
theorem wC_take : wC.take 1 = [3] := by
  unfold wC
  rw [page_nil]
  rfl

/-- The disk beside pages in memory. -/
def QP (s : Nat) (w0 w : World) (db : Nat) (d : Dk) (ps : List (Nat × List UInt8)) : Prop :=
  DW s w0 w db d (fun k => ∃ x ∈ ps, x.1 = k) ∧ ∀ x ∈ ps, ∃ t, Blk w x.1 (bcells x.2) t
theorem QP.keep {s : Nat} {w0 w w' : World} {db : Nat} {d d' : Dk} {ps : List (Nat × List UInt8)} (h : QP s w0 w db d ps) (D : DW s w0 w' db d' (fun k => ∃ x ∈ ps, x.1 = k)) (K : Kept (old s (fun k => ∃ x ∈ ps, x.1 = k)) w w') : QP s w0 w' db d' ps := by
  refine ⟨D, fun x hx => ?_⟩
  obtain ⟨t, b⟩ := h.2 x hx
  exact ⟨t, K.blk b (Or.inr ⟨x, hx, rfl⟩)⟩
theorem QP.grow {s : Nat} {w0 w w' : World} {db : Nat} {d : Dk} {ps : List (Nat × List UInt8)} (h : QP s w0 w db d ps) (B : Below w.heap.size w w') : QP s w0 w' db d ps :=
  ⟨h.1.grow B, fun x hx => by obtain ⟨t, b⟩ := h.2 x hx; exact ⟨t, b.below B b.lt⟩⟩
/-- A new page beside. -/
theorem QP.page {s : Nat} {w0 w w' : World} {db g : Nat} {d : Dk} {ps : List (Nat × List UInt8)} {l : List UInt8} {t : TypeId} (h : QP s w0 w db d ps) (B : Below w.heap.size w w') (hg : w.heap.size ≤ g) (b : Blk w' g (bcells l) t) : QP s w0 w' db d ((g, l) :: ps) := by
  have h' := h.grow B
  refine ⟨(h.1.add B).less (fun k hk => ?_), fun x hx => ?_⟩
  · obtain ⟨x, hx, rfl⟩ := hk
    rcases List.mem_cons.1 hx with rfl | hx
    · exact Or.inr ⟨hg, b.lt⟩
    · exact Or.inl ⟨x, hx, rfl⟩
  · rcases List.mem_cons.1 hx with rfl | hx
    · exact ⟨t, b⟩
    · exact h'.2 x hx
theorem QP.write {s : Nat} {w0 w : World} {db g : Nat} {d : Dk} {ps : List (Nat × List UInt8)} (h : QP s w0 w db d ps) (n : Int) (cap : Nat) (l : List UInt8) (hx : (g, l) ∈ ps) (hm : d.pend.length < 1000000) :
    Calls Try.prog 38 #[.pointer (some ⟨db, 0, none⟩), .int .i64 n, .slice (some ⟨g, 0, none⟩) l.length cap] w fun e w' => e = .returned (.int .i64 (d.wrErr n l)) ∧ QP s w0 w' db (d.wr n l) ps ∧ w.heap.size ≤ w'.heap.size := by
  obtain ⟨t, b⟩ := h.2 _ hx
  refine (h.1.write n (some ⟨g, 0, none⟩) l cap b.byts (fun g' off e => ?_) hm).mono ?_
  · simp only [Option.some.injEq, Addr.mk.injEq] at e
    exact Or.inr (Or.inl ⟨_, hx, e.1⟩)
  · rintro e w' ⟨he, D, K⟩
    exact ⟨he, h.keep D K, K.1⟩
theorem QP.read {s : Nat} {w0 w : World} {db : Nat} {d : Dk} {ps : List (Nat × List UInt8)} (h : QP s w0 w db d ps) (n : Int) (hr : d.reach n = 0) :
    Calls Try.prog 37 #[.pointer (some ⟨db, 0, none⟩), .int .i64 n] w fun e w' => e = .returned (.tuple #[.slice (some ⟨w.heap.size + 1, 0, none⟩) 512 512, .int .i64 0]) ∧ QP s w0 w' db d ((w.heap.size + 1, d.has n) :: ps) := by
  refine (h.1.read n hr).mono ?_
  rintro e w' ⟨he, P, B, S⟩
  exact ⟨he, h.page B (by omega) P.blk⟩
theorem QP.cell {s : Nat} {w0 w : World} {db g : Nat} {d : Dk} {ps : List (Nat × List UInt8)} {l : List UInt8} (h : QP s w0 w db d ps) (hx : (g, l) ∈ ps) {i : Nat} {c : UInt8} (hc : l[i]? = some c) : w.cell? ⟨g, i, none⟩ = some (.int .u8 (c.toNat : Int)) := by
  obtain ⟨t, b⟩ := h.2 _ hx
  have e := b.cell i
  rw [e]
  unfold bcells
  rw [List.getElem?_map, hc]
  rfl
/-- A mend with bools that were just made. -/
theorem QP.mend1 {s : Nat} {w0 w : World} {db : Nat} {d : Dk} {ps : List (Nat × List UInt8)} (h : QP s w0 w db d ps) (torn cut : Int) (hm : d.pend.length < 1000000) :
    Calls Try.prog 28 #[.pointer (some ⟨db, 0, none⟩), .slice (some ⟨w.heap.size, 0, none⟩) 1 1, .int .i64 torn, .int .i64 cut] (w.alloc (.cells #[.bool true] 4)) fun e w' => e = .returned (.tuple #[]) ∧ QP s w0 w' db (d.mended [true] torn cut) ps := by
  have B : Below w.heap.size w (w.alloc (.cells #[.bool true] 4)) := (Below.refl _ _).alloc (Nat.le_refl _) _
  have D := h.1.add B
  have bk := Blk.new w [.bool true] 4
  refine (D.mend (some ⟨w.heap.size, 0, none⟩) [true] 1 torn cut hm (Or.inr ⟨w.heap.size, 0, rfl, fun i hi => ?_⟩) (fun _ b off e => ?_)).mono ?_
  · obtain rfl : i = 0 := by simpa using hi
    exact bk.cell 0
  · simp only [Option.some.injEq, Addr.mk.injEq] at e
    rw [← e.1]
    exact Or.inr (Or.inr ⟨Nat.le_refl _, bk.lt⟩)
  · rintro e w' ⟨he, D', K⟩
    refine ⟨he, D'.less (fun k hk => Or.inl hk), fun x hx => ?_⟩
    obtain ⟨t, b⟩ := (h.grow B).2 x hx
    exact ⟨t, K.blk b (Or.inr (Or.inl ⟨x, hx, rfl⟩))⟩
theorem QP.start {s : Nat} {w0 w w' : World} {db : Nat} {d : Dk} (P : PD w' db (fun k => w.heap.size ≤ k ∧ k < w'.heap.size) d) (B : Below w.heap.size w w') (hs : s ≤ w.heap.size) (B0 : Below s w0 w) : QP s w0 w' db d [] :=
  ⟨(DW.made (n := 0) P B hs B0).less (fun k hk => by obtain ⟨x, hx, _⟩ := hk; cases hx), fun x hx => by cases hx⟩

end Go.Proofs.Ytnecigbncggogaa
