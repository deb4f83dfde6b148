/- works answers true: a disk does what it must at one plain row of acts. No conditions. -/
import Derived.Test.YtfgcjcffplglhaaDkLaw
namespace Go.Proofs.Ytfgcjcffplglhaa
open Go.RowKit
set_option linter.unusedVariables false
set_option maxRecDepth 20000

/-- A disk with power and no end of steps. -/
structure Dk.free (d : Dk) : Prop where
  down : d.down = false
  arm : d.arm = -1
theorem Dk.fresh_free (n : Nat) : (Dk.fresh n).free := ⟨rfl, rfl⟩
theorem Dk.free.stepped {d : Dk} (h : d.free) : d.stepped = d := by
  unfold Dk.stepped
  rw [h.arm, if_neg (by decide), if_neg (by decide)]
theorem Dk.free.reach {d : Dk} (h : d.free) {n : Int} (h0 : 0 ≤ n) (h1 : n < d.pages) : d.reach n = 0 := by
  unfold Dk.reach
  rw [h.down, if_neg (by simp), if_neg (by omega)]
theorem Dk.free.wr {d : Dk} (h : d.free) {n : Int} {b : List UInt8} (h0 : 0 ≤ n) (h1 : n < d.pages) (hb : b.length = 512) : d.wrErr n b = 0 ∧ d.wr n b = d.push n b := by
  unfold Dk.wrErr Dk.wr
  have e1 : ¬ ((0 : Int) ≠ 0) := by simp
  have e2 : ¬ (b.length ≠ 512) := by simpa using hb
  have e3 : ¬ (d.arm = 0) := by rw [h.arm]; decide
  rw [h.reach h0 h1]
  simp only [if_neg e1, if_neg e2, if_neg e3, h.stepped]
  exact ⟨trivial, trivial⟩
theorem Dk.free.push {d : Dk} (h : d.free) (n : Int) (b : List UInt8) : (d.push n b).free := ⟨h.down, h.arm⟩
theorem Dk.mended_free (d : Dk) (keep : List Bool) (torn cut : Int) : (d.mended keep torn cut).free := ⟨rfl, rfl⟩
theorem Dk.free.sy {d : Dk} (h : d.free) : d.syErr = 0 ∧ d.sy = d.settled (fun _ => 512) := by
  unfold Dk.syErr Dk.sy
  have e3 : ¬ (d.arm = 0) := by rw [h.arm]; decide
  simp only [h.down, Bool.false_eq_true, if_false, if_neg e3, h.stepped]
  exact ⟨trivial, trivial⟩
theorem Dk.free.settled {d : Dk} (h : d.free) (c : Nat → Nat) : (d.settled c).free := ⟨h.down, h.arm⟩
def wA : List UInt8 := pageM 1 [] 512
def wB : List UInt8 := pageM 2 [] 512
def wC : List UInt8 := pageM 3 [] 512
def wD3 : Dk := (((Dk.fresh 4).push 1 wA).push 1 wB).push 2 wC
def wD4 : Dk := wD3.mended [true] 2 1
theorem wD3_has : wD3.has 1 = wB := rfl
theorem page_nil (f : UInt8) (m : Nat) : pageM f [] m = fills f m := by unfold pageM; simp [over]
theorem wA_len : wA.length = 512 := pageM_len ..
theorem wB_len : wB.length = 512 := pageM_len ..
theorem wC_len : wC.length = 512 := pageM_len ..
theorem wD4_has1 : wD4.has 1 = wA := by
  have e : wD4.has 1 = over (wB.take 0) (over (wA.take 512) zero512) := rfl
  rw [e, List.take_zero, over_nil, List.take_of_length_le (by rw [wA_len]; omega), over_all (by rw [wA_len, zero512_len])]
theorem wD4_has2 : wD4.has 2 = over (wC.take 1) zero512 := rfl
theorem fills_at (f : UInt8) (m i : Nat) (h : i < m) : (fills f m)[i]? = some f := by unfold fills; rw [List.getElem?_replicate, if_pos h]
theorem Pg.cell {w : World} {g : Nat} {l : List UInt8} (h : Pg w g l) {i : Nat} {c : UInt8} (hc : l[i]? = some c) : w.cell? ⟨g, i, none⟩ = some (.int .u8 (c.toNat : Int)) := by
  rw [h.blk.cell i]
  unfold bcells
  rw [List.getElem?_map, hc]
  rfl
theorem Pg.chg {F : Nat → Prop} {w w' : World} {g : Nat} {l : List UInt8} (h : Pg w g l) (c : Chg F w w') (hn : ¬ F g) : Pg w' g l := h.blk.chg c hn
theorem Pg.below {w w' : World} {g B : Nat} {l : List UInt8} (h : Pg w g l) (c : Below B w w') (hn : g < B) : Pg w' g l := h.blk.below c hn
theorem Blk.byts {w : World} {g : Nat} {l : List UInt8} {t : TypeId} (h : Blk w g (bcells l) t) : Byts w (some ⟨g, 0, none⟩) l :=
  Or.inr ⟨g, 0, rfl, fun i hi => by rw [Nat.zero_add, h.cell i]; exact bcells_at hi⟩
theorem over1 (c : UInt8) (l : List UInt8) (hl : 1 < l.length) : (over [c] l)[0]? = some c ∧ (over [c] l)[1]? = l[1]? := by
  unfold over
  refine ⟨rfl, ?_⟩
  show (l.drop 1)[0]? = _
  rw [List.getElem?_drop]
theorem wC_take : wC.take 1 = [3] := by
  unfold wC
  rw [page_nil]
  rfl

/-- The disk beside pages in memory. -/
def QP (s : Nat) (w0 w : World) (db : Nat) (d : Dk) (ps : List (Nat × List UInt8)) : Prop :=
  DW s w0 w db d (fun k => ∃ x ∈ ps, x.1 = k) ∧ ∀ x ∈ ps, ∃ t, Blk w x.1 (bcells x.2) t
theorem QP.keep {s : Nat} {w0 w w' : World} {db : Nat} {d d' : Dk} {ps : List (Nat × List UInt8)} (h : QP s w0 w db d ps) (D : DW s w0 w' db d' (fun k => ∃ x ∈ ps, x.1 = k)) (K : Kept (old s (fun k => ∃ x ∈ ps, x.1 = k)) w w') : QP s w0 w' db d' ps := by
  refine ⟨D, fun x hx => ?_⟩
  obtain ⟨t, b⟩ := h.2 x hx
  exact ⟨t, K.blk b (Or.inr ⟨x, hx, rfl⟩)⟩
theorem QP.grow {s : Nat} {w0 w w' : World} {db : Nat} {d : Dk} {ps : List (Nat × List UInt8)} (h : QP s w0 w db d ps) (B : Below w.heap.size w w') : QP s w0 w' db d ps :=
  ⟨h.1.grow B, fun x hx => by obtain ⟨t, b⟩ := h.2 x hx; exact ⟨t, b.below B b.lt⟩⟩
/-- A new page beside. -/
theorem QP.page {s : Nat} {w0 w w' : World} {db g : Nat} {d : Dk} {ps : List (Nat × List UInt8)} {l : List UInt8} {t : TypeId} (h : QP s w0 w db d ps) (B : Below w.heap.size w w') (hg : w.heap.size ≤ g) (b : Blk w' g (bcells l) t) : QP s w0 w' db d ((g, l) :: ps) := by
  have h' := h.grow B
  refine ⟨(h.1.add B).less (fun k hk => ?_), fun x hx => ?_⟩
  · obtain ⟨x, hx, rfl⟩ := hk
    rcases List.mem_cons.1 hx with rfl | hx
    · exact Or.inr ⟨hg, b.lt⟩
    · exact Or.inl ⟨x, hx, rfl⟩
  · rcases List.mem_cons.1 hx with rfl | hx
    · exact ⟨t, b⟩
    · exact h'.2 x hx
theorem QP.write {s : Nat} {w0 w : World} {db g : Nat} {d : Dk} {ps : List (Nat × List UInt8)} (h : QP s w0 w db d ps) (n : Int) (cap : Nat) (l : List UInt8) (hx : (g, l) ∈ ps) (hm : d.pend.length < 1000000) :
    Calls Try.prog 12 #[.pointer (some ⟨db, 0, none⟩), .int .i64 n, .slice (some ⟨g, 0, none⟩) l.length cap] w fun e w' => e = .returned (.int .i64 (d.wrErr n l)) ∧ QP s w0 w' db (d.wr n l) ps ∧ w.heap.size ≤ w'.heap.size := by
  obtain ⟨t, b⟩ := h.2 _ hx
  refine (h.1.write n (some ⟨g, 0, none⟩) l cap b.byts (fun g' off e => ?_) hm).mono ?_
  · simp only [Option.some.injEq, Addr.mk.injEq] at e
    exact Or.inr (Or.inl ⟨_, hx, e.1⟩)
  · rintro e w' ⟨he, D, K⟩
    exact ⟨he, h.keep D K, K.1⟩
theorem QP.read {s : Nat} {w0 w : World} {db : Nat} {d : Dk} {ps : List (Nat × List UInt8)} (h : QP s w0 w db d ps) (n : Int) (hr : d.reach n = 0) :
    Calls Try.prog 29 #[.pointer (some ⟨db, 0, none⟩), .int .i64 n] w fun e w' => e = .returned (.tuple #[.slice (some ⟨w.heap.size + 1, 0, none⟩) 512 512, .int .i64 0]) ∧ QP s w0 w' db d ((w.heap.size + 1, d.has n) :: ps) := by
  refine (h.1.read n hr).mono ?_
  rintro e w' ⟨he, P, B, S⟩
  exact ⟨he, h.page B (by omega) P.blk⟩
theorem QP.cell {s : Nat} {w0 w : World} {db g : Nat} {d : Dk} {ps : List (Nat × List UInt8)} {l : List UInt8} (h : QP s w0 w db d ps) (hx : (g, l) ∈ ps) {i : Nat} {c : UInt8} (hc : l[i]? = some c) : w.cell? ⟨g, i, none⟩ = some (.int .u8 (c.toNat : Int)) := by
  obtain ⟨t, b⟩ := h.2 _ hx
  have e := b.cell i
  rw [e]
  unfold bcells
  rw [List.getElem?_map, hc]
  rfl
/-- A mend with bools that were just made. -/
theorem QP.mend1 {s : Nat} {w0 w : World} {db : Nat} {d : Dk} {ps : List (Nat × List UInt8)} (h : QP s w0 w db d ps) (torn cut : Int) (hm : d.pend.length < 1000000) :
    Calls Try.prog 14 #[.pointer (some ⟨db, 0, none⟩), .slice (some ⟨w.heap.size, 0, none⟩) 1 1, .int .i64 torn, .int .i64 cut] (w.alloc (.cells #[.bool true] 4)) fun e w' => e = .returned (.tuple #[]) ∧ QP s w0 w' db (d.mended [true] torn cut) ps := by
  have B : Below w.heap.size w (w.alloc (.cells #[.bool true] 4)) := (Below.refl _ _).alloc (Nat.le_refl _) _
  have D := h.1.add B
  have bk := Blk.new w [.bool true] 4
  refine (D.mend (some ⟨w.heap.size, 0, none⟩) [true] 1 torn cut hm (Or.inr ⟨w.heap.size, 0, rfl, fun i hi => ?_⟩) (fun _ b off e => ?_)).mono ?_
  · obtain rfl : i = 0 := by simpa using hi
    exact bk.cell 0
  · simp only [Option.some.injEq, Addr.mk.injEq] at e
    rw [← e.1]
    exact Or.inr (Or.inr ⟨Nat.le_refl _, bk.lt⟩)
  · rintro e w' ⟨he, D', K⟩
    refine ⟨he, D'.less (fun k hk => Or.inl hk), fun x hx => ?_⟩
    obtain ⟨t, b⟩ := (h.grow B).2 x hx
    exact ⟨t, K.blk b (Or.inr (Or.inl ⟨x, hx, rfl⟩))⟩
theorem QP.start {s : Nat} {w0 w w' : World} {db : Nat} {d : Dk} (P : PD w' db (fun k => w.heap.size ≤ k ∧ k < w'.heap.size) d) (B : Below w.heap.size w w') (hs : s ≤ w.heap.size) (B0 : Below s w0 w) : QP s w0 w' db d [] :=
  ⟨(DW.made (n := 0) P B hs B0).less (fun k hk => by obtain ⟨x, hx, _⟩ := hk; cases hx), fun x hx => by cases hx⟩

set_option maxHeartbeats 4000000 in
theorem works_any (w : World) : Calls Try.prog 24 #[] w fun e w' => e = .returned (.bool true) ∧ Below w.heap.size w w' := by
  have N := newD 4 w (by omega) (by omega)
  rw [show (4 : Int).toNat = 4 from rfl] at N
  have PgC : ∀ (f : UInt8) (w1 : World), Calls Try.prog 27 #[opV 0 0 f (.slice none 0 0) false (.slice none 0 0) 0 0] w1 fun e w' => e = .returned (.slice (some ⟨w1.heap.size + 1, 0, none⟩) 512 512) ∧ Blk w' (w1.heap.size + 1) (bcells (pageM f [] 512)) 5 ∧ Below w1.heap.size w1 w' ∧ w'.heap.size = w1.heap.size + 2 := fun f w1 => page_512 0 0 f none [] 0 _ 0 0 w1 (Or.inl rfl)
  have HPA : Hid (∀ w1 : World, Calls Try.prog 27 #[.agg #[.int .i64 0, .int .i64 0, .int .u8 1, .slice none 0 0, .bool false, .slice none 0 0, .int .i64 0, .int .i64 0]] w1 fun e w' => e = .returned (.slice (some ⟨w1.heap.size + 1, 0, none⟩) 512 512) ∧ Blk w' (w1.heap.size + 1) (bcells wA) 5 ∧ Below w1.heap.size w1 w' ∧ w'.heap.size = w1.heap.size + 2) := PgC 1
  have HPB : Hid (∀ w1 : World, Calls Try.prog 27 #[.agg #[.int .i64 0, .int .i64 0, .int .u8 2, .slice none 0 0, .bool false, .slice none 0 0, .int .i64 0, .int .i64 0]] w1 fun e w' => e = .returned (.slice (some ⟨w1.heap.size + 1, 0, none⟩) 512 512) ∧ Blk w' (w1.heap.size + 1) (bcells wB) 5 ∧ Below w1.heap.size w1 w' ∧ w'.heap.size = w1.heap.size + 2) := PgC 2
  have HPC : Hid (∀ w1 : World, Calls Try.prog 27 #[.agg #[.int .i64 0, .int .i64 0, .int .u8 3, .slice none 0 0, .bool false, .slice none 0 0, .int .i64 0, .int .i64 0]] w1 fun e w' => e = .returned (.slice (some ⟨w1.heap.size + 1, 0, none⟩) 512 512) ∧ Blk w' (w1.heap.size + 1) (bcells wC) 5 ∧ Below w1.heap.size w1 w' ∧ w'.heap.size = w1.heap.size + 2) := PgC 3
  clear PgC
  have HN := hid N
  clear N
  have r0 : (Dk.fresh 4).free := Dk.fresh_free 4
  have r1 := r0.push 1 wA
  have r2 := r1.push 1 wB
  have r3 : wD3.free := r2.push 2 wC
  have k1 := r0.wr (n := 1) (by decide) (by decide) wA_len
  have k2 := r1.wr (n := 1) (by decide) (by decide) wB_len
  have k3 := r2.wr (n := 2) (by decide) (by decide) wC_len
  have HW1 : Hid (∀ w4 ga ps, QP w.heap.size w w4 (w.heap.size + 2) (Dk.fresh 4) ps → (ga, wA) ∈ ps → Calls Try.prog 12 #[.pointer (some ⟨w.heap.size + 2, 0, none⟩), .int .i64 1, .slice (some ⟨ga, 0, none⟩) 512 512] w4 fun e w' => e = .returned (.int .i64 0) ∧ QP w.heap.size w w' (w.heap.size + 2) ((Dk.fresh 4).push 1 wA) ps) := fun w4 ga ps q hx => by
    have t := q.write 1 512 wA hx (by decide)
    rw [k1.1, k1.2, wA_len] at t
    exact t.mono (fun e w' ⟨a, b, _⟩ => ⟨a, b⟩)
  have HW2 : Hid (∀ w4 ga ps, QP w.heap.size w w4 (w.heap.size + 2) ((Dk.fresh 4).push 1 wA) ps → (ga, wB) ∈ ps → Calls Try.prog 12 #[.pointer (some ⟨w.heap.size + 2, 0, none⟩), .int .i64 1, .slice (some ⟨ga, 0, none⟩) 512 512] w4 fun e w' => e = .returned (.int .i64 0) ∧ QP w.heap.size w w' (w.heap.size + 2) (((Dk.fresh 4).push 1 wA).push 1 wB) ps) := fun w4 ga ps q hx => by
    have t := q.write 1 512 wB hx (by decide)
    rw [k2.1, k2.2, wB_len] at t
    exact t.mono (fun e w' ⟨a, b, _⟩ => ⟨a, b⟩)
  have HW3 : Hid (∀ w4 ga ps, QP w.heap.size w w4 (w.heap.size + 2) (((Dk.fresh 4).push 1 wA).push 1 wB) ps → (ga, wC) ∈ ps → Calls Try.prog 12 #[.pointer (some ⟨w.heap.size + 2, 0, none⟩), .int .i64 2, .slice (some ⟨ga, 0, none⟩) 512 512] w4 fun e w' => e = .returned (.int .i64 0) ∧ QP w.heap.size w w' (w.heap.size + 2) wD3 ps) := fun w4 ga ps q hx => by
    have t := q.write 2 512 wC hx (by decide)
    rw [k3.1, k3.2, wC_len] at t
    exact t.mono (fun e w' ⟨a, b, _⟩ => ⟨a, b⟩)
  have HR1 : Hid (∀ w4 ps, QP w.heap.size w w4 (w.heap.size + 2) wD3 ps → Calls Try.prog 29 #[.pointer (some ⟨w.heap.size + 2, 0, none⟩), .int .i64 1] w4 fun e w' => e = .returned (.tuple #[.slice (some ⟨w4.heap.size + 1, 0, none⟩) 512 512, .int .i64 0]) ∧ QP w.heap.size w w' (w.heap.size + 2) wD3 ((w4.heap.size + 1, wB) :: ps)) := fun w4 ps q => q.read 1 (r3.reach (by decide) (by decide))
  have HM : Hid (∀ w4 ps, QP w.heap.size w w4 (w.heap.size + 2) wD3 ps → Calls Try.prog 14 #[.pointer (some ⟨w.heap.size + 2, 0, none⟩), .slice (some ⟨w4.heap.size, 0, none⟩) 1 1, .int .i64 2, .int .i64 1] (w4.alloc (.cells #[.bool true] 4)) fun e w' => e = .returned (.tuple #[]) ∧ QP w.heap.size w w' (w.heap.size + 2) wD4 ps) := fun w4 ps q => q.mend1 2 1 (by decide)
  have r4 : wD4.free := Dk.mended_free _ _ _ _
  have HR2 : Hid (∀ w4 ps, QP w.heap.size w w4 (w.heap.size + 2) wD4 ps → Calls Try.prog 29 #[.pointer (some ⟨w.heap.size + 2, 0, none⟩), .int .i64 1] w4 fun e w' => e = .returned (.tuple #[.slice (some ⟨w4.heap.size + 1, 0, none⟩) 512 512, .int .i64 0]) ∧ QP w.heap.size w w' (w.heap.size + 2) wD4 ((w4.heap.size + 1, wA) :: ps)) := fun w4 ps q => by
    have t := q.read 1 (r4.reach (by decide) (by decide))
    rw [wD4_has1] at t
    exact t
  have HR3 : Hid (∀ w4 ps, QP w.heap.size w w4 (w.heap.size + 2) wD4 ps → Calls Try.prog 29 #[.pointer (some ⟨w.heap.size + 2, 0, none⟩), .int .i64 2] w4 fun e w' => e = .returned (.tuple #[.slice (some ⟨w4.heap.size + 1, 0, none⟩) 512 512, .int .i64 0]) ∧ QP w.heap.size w w' (w.heap.size + 2) wD4 ((w4.heap.size + 1, over [3] zero512) :: ps)) := fun w4 ps q => by
    have t := q.read 2 (r4.reach (by decide) (by decide))
    rw [wD4_has2, wC_take] at t
    exact t
  have b2 : Hid (wB[0]? = some 2) := by show _ = _; unfold wB; rw [page_nil]; exact fills_at _ _ _ (by omega)
  have b9 : Hid (wA[9]? = some 1) := by show _ = _; unfold wA; rw [page_nil]; exact fills_at _ _ _ (by omega)
  have b0 : Hid ((over [3] zero512)[0]? = some 3) := (over1 3 zero512 (by rw [zero512_len]; omega)).1
  have b1 : Hid ((over [3] zero512)[1]? = some 0) := (over1 3 zero512 (by rw [zero512_len]; omega)).2.trans (by unfold zero512; rw [List.getElem?_replicate, if_pos (by omega)])
  clear r0 r1 r2 r3 r4 k1 k2 k3
  go_enter Try.func24, Try.ntmps24
  go_wp2_with (first
    | (go_at_call 9; with_reducible refine HN.out.mono ?_; rintro e w1 ⟨rfl, P1, S1, B1⟩; have HQ1 := hid (QP.start P1 B1 (Nat.le_refl _) (Below.refl _ _)); clear P1 S1 B1 HN)
    | (go_at_call 27; with_reducible first
        | (refine (HPA.out w1).mono ?_; rintro e w2 ⟨rfl, G2, B2, S2⟩; have HQ2 := hid (HQ1.out.page B2 (Nat.le_succ _) G2); clear G2 B2 S2 HQ1)
        | (refine (HPB.out w2).mono ?_; rintro e w3 ⟨rfl, G3, B3, S3⟩; have HQ3 := hid (HQ2.out.page B3 (Nat.le_succ _) G3); clear G3 B3 S3 HQ2)
        | (refine (HPC.out w3).mono ?_; rintro e w4 ⟨rfl, G4, B4, S4⟩; have HQ4 := hid (HQ3.out.page B4 (Nat.le_succ _) G4); clear G4 B4 S4 HQ3))
    | (go_at_call 12; with_reducible first
        | (refine (HW1.out _ _ _ HQ4.out (by simp)).mono ?_; rintro e w5 ⟨rfl, Q5⟩; have HQ5 := hid Q5; clear Q5 HQ4)
        | (refine (HW2.out _ _ _ HQ5.out (by simp)).mono ?_; rintro e w6 ⟨rfl, Q6⟩; have HQ6 := hid Q6; clear Q6 HQ5)
        | (refine (HW3.out _ _ _ HQ6.out (by simp)).mono ?_; rintro e w7 ⟨rfl, Q7⟩; have HQ7 := hid Q7; clear Q7 HQ6))
    | (go_at_call 14; with_reducible refine (HM.out _ _ HQ8.out).mono ?_; rintro e w9 ⟨rfl, Q9⟩; have HQ9 := hid Q9; clear Q9 HQ8)
    | (go_at_call 29; with_reducible first
        | (refine (HR1.out _ _ HQ7.out).mono ?_; rintro e w8 ⟨rfl, Q8⟩; have HQ8 := hid Q8; clear Q8 HQ7)
        | (refine (HR2.out _ _ HQ9.out).mono ?_; rintro e w10 ⟨rfl, Q10⟩; have HQ10 := hid Q10; clear Q10 HQ9)
        | (refine (HR3.out _ _ HQ10.out).mono ?_; rintro e w11 ⟨rfl, Q11⟩; have c0 := Q11.cell (by simp) b2.out (g := w7.heap.size + 1); have c1 := Q11.cell (by simp) b9.out (g := w9.heap.size + 1); have c2 := Q11.cell (by simp) b0.out (g := w10.heap.size + 1); have c3 := Q11.cell (by simp) b1.out (g := w10.heap.size + 1); have HQ11 := hid Q11; clear Q11 HQ10))
    | fail)
  go_ret
  exact ⟨rfl, HQ11.out.1.bel⟩
end Go.Proofs.Ytfgcjcffplglhaa
