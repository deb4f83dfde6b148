/- What the document's own (*reader).value does. Condition: the bytes lie within the reach. -/
import Derived.Test.YtaoeonbhlpnjiaaRefNumR
namespace Go.Proofs.Ytaoeonbhlpnjiaa
open Go.RowKit Go.Lib Go.Sort
set_option linter.unusedVariables false

/-- The ending of a value that the document's reader reads. -/
def qvalEnd (rb : Nat) (x : Except Int (Val × List UInt8)) (w : World) (e : Ending) (w' : World) : Prop :=
  Only rb w w' ∧ match x with
    | .ok r => e = .returned (.agg #[.int .i64 r.1.k, .int .i64 r.1.n, .string r.1.s]) ∧ Rq w' rb r.2 0
    | .error k => (∃ a b s, e = .returned (.agg #[.int .i64 a, .int .i64 b, .string s])) ∧ ∃ r, Rq w' rb r k

/-- The cells of a box. -/
def BoxAt (w : World) (a : Nat) (k n : Int) (s : ByteArray) : Prop :=
  w.cell? ⟨a, 0, none⟩ = some (.int .i64 k) ∧ w.cell? ⟨a, 1, none⟩ = some (.int .i64 n) ∧ w.cell? ⟨a, 2, none⟩ = some (.string s) ∧ w.frozen? ⟨a, 0, none⟩ = false ∧ w.frozen? ⟨a, 1, none⟩ = false ∧ w.frozen? ⟨a, 2, none⟩ = false
theorem BoxAt.get {w : World} {a : Nat} {k n : Int} {s : ByteArray} (h : BoxAt w a k n s) : w.cell? ⟨a, 0, none⟩ = some (.int .i64 k) ∧ w.cell? ⟨a, 1, none⟩ = some (.int .i64 n) ∧ w.cell? ⟨a, 2, none⟩ = some (.string s) ∧ w.frozen? ⟨a, 0, none⟩ = false ∧ w.frozen? ⟨a, 1, none⟩ = false ∧ w.frozen? ⟨a, 2, none⟩ = false := h
theorem BoxAt.new (w : World) (k n : Int) (s : ByteArray) (ty : TypeId) : BoxAt (w.alloc (.cells #[.int .i64 k, .int .i64 n, .string s] ty)) w.heap.size k n s := by
  refine ⟨?_, ?_, ?_, ?_, ?_, ?_⟩ <;> go_simp
theorem BoxAt.only {w w' : World} {a rb : Nat} {k n : Int} {s : ByteArray} (h : BoxAt w a k n s) (O : Only rb w w') (hne : a ≠ rb) : BoxAt w' a k n s := by
  obtain ⟨c0, c1, c2, f0, f1, f2⟩ := h
  have hb := O.block a (cell_lt c0) hne (by simp [nilB, Value.ownBlock])
  exact ⟨O.cell c0 hne, O.cell c1 hne, O.cell c2 hne, (World.frozen?_of_block hb).trans f0, (World.frozen?_of_block hb).trans f1, (World.frozen?_of_block hb).trans f2⟩
theorem BoxAt.alloc {w : World} {a : Nat} {k n : Int} {s : ByteArray} (h : BoxAt w a k n s) (o : Obj) : BoxAt (w.alloc o) a k n s := by
  have B : Below w.heap.size w (w.alloc o) := (Below.refl _ _).alloc (Nat.le_refl _) o
  obtain ⟨c0, c1, c2, f0, f1, f2⟩ := h
  have hl := cell_lt c0
  exact ⟨below_cell B c0, below_cell B c1, below_cell B c2, (B.frozen (p := ⟨a, 0, none⟩) hl).trans f0, (B.frozen (p := ⟨a, 1, none⟩) hl).trans f1, (B.frozen (p := ⟨a, 2, none⟩) hl).trans f2⟩
/-- Both boxes, behind all that the reader did. -/
theorem boxes {w w2 w4 : World} {rb : Nat} {y : Int} {ty : TypeId} (hrb : rb < w.heap.size) (O2 : Only rb (w.alloc (.cells #[.int .i64 0, .int .i64 0, .string ⟨#[]⟩] ty)) w2) (O4 : Only rb (w2.alloc (.cells #[.int .i64 y, .int .i64 0, .string ⟨#[]⟩] ty)) w4) :
    BoxAt w4 w.heap.size 0 0 ⟨#[]⟩ ∧ BoxAt w4 w2.heap.size y 0 ⟨#[]⟩ ∧ w.heap.size < w2.heap.size ∧ Only rb w w4 := by
  have hs : w.heap.size < w2.heap.size := by
    have := O2.size
    simp at this
    omega
  exact ⟨(((BoxAt.new w 0 0 ⟨#[]⟩ ty).only O2 (by omega)).alloc _).only O4 (by omega), (BoxAt.new w2 y 0 ⟨#[]⟩ ty).only O4 (by omega), hs, ((only_alloc _ _ _).trans O2).trans ((only_alloc _ _ _).trans O4)⟩
theorem box1 {w w2 : World} {rb : Nat} {ty : TypeId} (hrb : rb < w.heap.size) (O2 : Only rb (w.alloc (.cells #[.int .i64 0, .int .i64 0, .string ⟨#[]⟩] ty)) w2) :
    BoxAt w2 w.heap.size 0 0 ⟨#[]⟩ ∧ w.heap.size < w2.heap.size ∧ Only rb w w2 := by
  have hs : w.heap.size < w2.heap.size := by
    have := O2.size
    simp at this
    omega
  exact ⟨(BoxAt.new w 0 0 ⟨#[]⟩ ty).only O2 (by omega), hs, (only_alloc _ _ _).trans O2⟩
theorem Rq.up {w : World} {rb : Nat} {u : List UInt8} {e : Int} (h : Rq w rb u e) (o : Obj) : Rq (w.alloc o) rb u e := h.below (base := w.heap.size) ((Below.refl _ _).alloc (Nat.le_refl _) o) h.lt

set_option maxHeartbeats 2000000 in
theorem qv_none (rb : Nat) (w : World) (hR : Rq w rb [] 0) :
    Calls Try.prog 29 #[.pointer (some ⟨rb, 0, none⟩)] w (qvalEnd rb (.error 1) w) := by
  have hrb := hR.lt
  have T := qone_none rb _ (hR.up (.cells #[.int .i64 0, .int .i64 0, .string ⟨#[]⟩] 38))
  clear hR
  go_enter Try.func29, Try.ntmps29
  go_wp2_with (first
    | (go_at_call 40; with_reducible refine T.mono ?_; rintro e w2 ⟨rfl, R2, O2⟩; have HO2 := hid O2; have HR0 := hid R2; have HR2 := hid (R2.up (.cells #[.int .i64 0, .int .i64 0, .string ⟨#[]⟩] 38)); clear R2 O2; obtain ⟨bA, hbl, oA⟩ := box1 hrb HO2.out; have HOA := hid oA; obtain ⟨a0, a1, a2, af0, af1, af2⟩ := bA.get; clear bA oA; clear T)
    | fail)
  have B := Below.refl w.heap.size w2
  have hne : w.heap.size ≠ w2.heap.size := Nat.ne_of_lt hbl
  refine bodyPost_ret (by simp [results, Try.results29, go_sem, a0, a1, a2, hbl]; try rfl) rfl ?_
  exact ⟨HOA.out.then (by go_grown), ⟨_, _, _, rfl⟩, _, HR0.out.below (base := w.heap.size) (by go_grown) hrb⟩

set_option maxHeartbeats 2000000 in
theorem qv_null (rb : Nat) (c : UInt8) (u : List UInt8) (w : World) (hR : Rq w rb (c :: u) 0) (hl : u.length + 1 ≤ 140737488351232) (hc : c.toNat = 0) :
    Calls Try.prog 29 #[.pointer (some ⟨rb, 0, none⟩)] w (qvalEnd rb (.ok (⟨0, 0, ⟨#[]⟩⟩, u)) w) := by
  have hrb := hR.lt
  have T := (qone_some rb c u _ (hR.up (.cells #[.int .i64 0, .int .i64 0, .string ⟨#[]⟩] 38)) (by unfold maxLen; omega)).mono (R' := fun e w' => e = .returned (.int .u8 0) ∧ Rq w' rb u 0 ∧ Only rb (w.alloc (.cells #[.int .i64 0, .int .i64 0, .string ⟨#[]⟩] 38)) w') (by rintro e w' ⟨h, r1, o1⟩; exact ⟨by rw [h, hc]; rfl, r1, o1⟩)
  clear hR
  go_enter Try.func29, Try.ntmps29
  go_wp2_with (first
    | (go_at_call 40; with_reducible refine T.mono ?_; rintro e w2 ⟨rfl, R2, O2⟩; have HO2 := hid O2; have HR0 := hid R2; have HR2 := hid (R2.up (.cells #[.int .i64 0, .int .i64 0, .string ⟨#[]⟩] 38)); clear R2 O2; obtain ⟨bA, hbl, oA⟩ := box1 hrb HO2.out; have HOA := hid oA; obtain ⟨a0, a1, a2, af0, af1, af2⟩ := bA.get; clear bA oA; clear T)
    | fail)
  have B := Below.refl w.heap.size w2
  have hne : w.heap.size ≠ w2.heap.size := Nat.ne_of_lt hbl
  refine bodyPost_ret (by simp [results, Try.results29, go_sem, a0, a1, a2, hbl]; try rfl) rfl ?_
  exact ⟨HOA.out.then (by go_grown), rfl, HR0.out.below (base := w.heap.size) (by go_grown) hrb⟩

set_option maxHeartbeats 2000000 in
theorem qv_bad (rb : Nat) (c : UInt8) (u : List UInt8) (w : World) (hR : Rq w rb (c :: u) 0) (hl : u.length + 1 ≤ 140737488351232) (hc0 : 5 ≤ c.toNat) :
    Calls Try.prog 29 #[.pointer (some ⟨rb, 0, none⟩)] w (qvalEnd rb (.error 5) w) := by
  have hrb := hR.lt
  have T := qone_some rb c u _ (hR.up (.cells #[.int .i64 0, .int .i64 0, .string ⟨#[]⟩] 38)) (by unfold maxLen; omega)
  have hlt := UInt8.toNat_lt c
  generalize c.toNat = y at *
  have e0 : ((y : Int) == 0) = false := beq_eq_false_iff_ne.2 (by omega)
  have e1 : ((y : Int) == 1) = false := beq_eq_false_iff_ne.2 (by omega)
  have e2 : ((y : Int) == 2) = false := beq_eq_false_iff_ne.2 (by omega)
  have e3 : ((y : Int) == 3) = false := beq_eq_false_iff_ne.2 (by omega)
  have e4 : ((y : Int) == 4) = false := beq_eq_false_iff_ne.2 (by omega)
  have E := fun w2 (R2 : Rq w2 rb u 0) => qfail_new rb u 5 w2 R2
  clear hR
  go_enter Try.func29, Try.ntmps29
  go_wp2_with (first
    | (go_at_call 40; with_reducible refine T.mono ?_; rintro e w2 ⟨rfl, R2, O2⟩; have HO2 := hid O2; have HR0 := hid R2; have HR2 := hid (R2.up (.cells #[.int .i64 (y : Int), .int .i64 0, .string ⟨#[]⟩] 38)); clear R2 O2; have E2 := E _ HR2.out; obtain ⟨bA, bB, _, _⟩ := boxes (y := (y : Int)) (ty := 38) hrb HO2.out (Only.refl _ _); obtain ⟨d0, d1, d2, _⟩ := bB.get; clear bA bB; clear T)
    | (go_at_call 30; with_reducible refine E2.mono ?_; rintro e w3 ⟨rfl, R3, O3⟩; have HR3 := hid R3; obtain ⟨bA, bB, hbl, oA⟩ := boxes hrb HO2.out O3; have HOA := hid oA; obtain ⟨a0, a1, a2, af0, af1, af2⟩ := bA.get; obtain ⟨v0, v1, v2, vf0, vf1, vf2⟩ := bB.get; clear bA bB oA; clear R3 O3)
    | fail)
  have B := Below.refl w.heap.size w3
  have hne : w.heap.size ≠ w2.heap.size := Nat.ne_of_lt hbl
  refine bodyPost_ret (by simp [results, Try.results29, go_sem, a0, a1, a2]; try rfl) rfl ?_
  exact ⟨HOA.out.then (by go_grown), ⟨_, _, _, rfl⟩, _, HR3.out.below (base := w.heap.size) (by go_grown) hrb⟩

set_option maxHeartbeats 2000000 in
theorem qv_bool (rb : Nat) (c d : UInt8) (u : List UInt8) (w : World) (hR : Rq w rb (c :: d :: u) 0) (hl : u.length + 2 ≤ 140737488351232) (hc : c.toNat = 1) (hd : d.toNat ≤ 1) :
    Calls Try.prog 29 #[.pointer (some ⟨rb, 0, none⟩)] w (qvalEnd rb (.ok (⟨1, (d.toNat : Int), ⟨#[]⟩⟩, u)) w) := by
  have hrb := hR.lt
  have T := (qone_some rb c (d :: u) _ (hR.up (.cells #[.int .i64 0, .int .i64 0, .string ⟨#[]⟩] 38)) (by unfold maxLen; simp; omega)).mono (R' := fun e w' => e = .returned (.int .u8 1) ∧ Rq w' rb (d :: u) 0 ∧ Only rb (w.alloc (.cells #[.int .i64 0, .int .i64 0, .string ⟨#[]⟩] 38)) w') (by rintro e w' ⟨h, r1, o1⟩; exact ⟨by rw [h, hc]; rfl, r1, o1⟩)
  have E := fun w2 (R2 : Rq w2 rb (d :: u) 0) => qone_some rb d u w2 R2 (by unfold maxLen; omega)
  clear hR
  generalize d.toNat = y at *
  go_enter Try.func29, Try.ntmps29
  go_wp2_with (first
    | (go_at_call 40; (first | (with_reducible refine T.mono ?_; rintro e w2 ⟨rfl, R2, O2⟩; have HO2 := hid O2; have HR0 := hid R2; have HR2 := hid (R2.up (.cells #[.int .i64 1, .int .i64 0, .string ⟨#[]⟩] 38)); clear R2 O2; have E2 := E _ HR2.out; obtain ⟨bA, bB, _, _⟩ := boxes (y := 1) (ty := 38) hrb HO2.out (Only.refl _ _); obtain ⟨d0, d1, d2, df0, df1, df2⟩ := bB.get; clear bA bB; clear T) | (with_reducible refine E2.mono ?_; rintro e w3 ⟨rfl, R3, O3⟩; have HR3 := hid R3; obtain ⟨bA, bB, hbl, oA⟩ := boxes hrb HO2.out O3; have HOA := hid oA; obtain ⟨a0, a1, a2, af0, af1, af2⟩ := bA.get; obtain ⟨v0, v1, v2, vf0, vf1, vf2⟩ := bB.get; clear bA bB oA; clear R3 O3)))
    | fail)
  have B := Below.refl w.heap.size w3
  have hne : w.heap.size ≠ w2.heap.size := Nat.ne_of_lt hbl
  refine bodyPost_ret (by simp [results, Try.results29, go_sem, a0, a1, a2]; try rfl) rfl ?_
  exact ⟨HOA.out.then (by go_grown), rfl, HR3.out.below (base := w.heap.size) (by go_grown) hrb⟩

set_option maxHeartbeats 2000000 in
theorem qv_bool_none (rb : Nat) (c : UInt8) (w : World) (hR : Rq w rb [c] 0) (hc : c.toNat = 1) :
    Calls Try.prog 29 #[.pointer (some ⟨rb, 0, none⟩)] w (qvalEnd rb (.error 1) w) := by
  have hrb := hR.lt
  have T := (qone_some rb c [] _ (hR.up (.cells #[.int .i64 0, .int .i64 0, .string ⟨#[]⟩] 38)) (by unfold maxLen; simp)).mono (R' := fun e w' => e = .returned (.int .u8 1) ∧ Rq w' rb [] 0 ∧ Only rb (w.alloc (.cells #[.int .i64 0, .int .i64 0, .string ⟨#[]⟩] 38)) w') (by rintro e w' ⟨h, r1, o1⟩; exact ⟨by rw [h, hc]; rfl, r1, o1⟩)
  have E := fun w2 (R2 : Rq w2 rb [] 0) => qone_none rb w2 R2
  clear hR
  go_enter Try.func29, Try.ntmps29
  go_wp2_with (first
    | (go_at_call 40; (first | (with_reducible refine T.mono ?_; rintro e w2 ⟨rfl, R2, O2⟩; have HO2 := hid O2; have HR0 := hid R2; have HR2 := hid (R2.up (.cells #[.int .i64 1, .int .i64 0, .string ⟨#[]⟩] 38)); clear R2 O2; have E2 := E _ HR2.out; obtain ⟨bA, bB, _, _⟩ := boxes (y := 1) (ty := 38) hrb HO2.out (Only.refl _ _); obtain ⟨d0, d1, d2, df0, df1, df2⟩ := bB.get; clear bA bB; clear T) | (with_reducible refine E2.mono ?_; rintro e w3 ⟨rfl, R3, O3⟩; have HR3 := hid R3; obtain ⟨bA, bB, hbl, oA⟩ := boxes hrb HO2.out O3; have HOA := hid oA; obtain ⟨a0, a1, a2, af0, af1, af2⟩ := bA.get; obtain ⟨v0, v1, v2, vf0, vf1, vf2⟩ := bB.get; clear bA bB oA; clear R3 O3)))
    | fail)
  have B := Below.refl w.heap.size w3
  have hne : w.heap.size ≠ w2.heap.size := Nat.ne_of_lt hbl
  refine bodyPost_ret (by simp [results, Try.results29, go_sem, a0, a1, a2]; try rfl) rfl ?_
  exact ⟨HOA.out.then (by go_grown), ⟨_, _, _, rfl⟩, _, HR3.out.below (base := w.heap.size) (by go_grown) hrb⟩

set_option maxHeartbeats 2000000 in
theorem qv_bool_bad (rb : Nat) (c d : UInt8) (u : List UInt8) (w : World) (hR : Rq w rb (c :: d :: u) 0) (hl : u.length + 2 ≤ 140737488351232) (hc : c.toNat = 1) (hd : 1 < d.toNat) :
    Calls Try.prog 29 #[.pointer (some ⟨rb, 0, none⟩)] w (qvalEnd rb (.error 3) w) := by
  have hrb := hR.lt
  have T := (qone_some rb c (d :: u) _ (hR.up (.cells #[.int .i64 0, .int .i64 0, .string ⟨#[]⟩] 38)) (by unfold maxLen; simp; omega)).mono (R' := fun e w' => e = .returned (.int .u8 1) ∧ Rq w' rb (d :: u) 0 ∧ Only rb (w.alloc (.cells #[.int .i64 0, .int .i64 0, .string ⟨#[]⟩] 38)) w') (by rintro e w' ⟨h, r1, o1⟩; exact ⟨by rw [h, hc]; rfl, r1, o1⟩)
  have E := fun w2 (R2 : Rq w2 rb (d :: u) 0) => qone_some rb d u w2 R2 (by unfold maxLen; omega)
  have G := fun w2 (R2 : Rq w2 rb u 0) => qfail_new rb u 3 w2 R2
  have hdl := UInt8.toNat_lt d
  clear hR
  generalize d.toNat = y at *
  go_enter Try.func29, Try.ntmps29
  go_wp2_with (first
    | (go_at_call 40; (first | (with_reducible refine T.mono ?_; rintro e w2 ⟨rfl, R2, O2⟩; have HO2 := hid O2; have HR0 := hid R2; have HR2 := hid (R2.up (.cells #[.int .i64 1, .int .i64 0, .string ⟨#[]⟩] 38)); clear R2 O2; have E2 := E _ HR2.out; obtain ⟨bA, bB, _, _⟩ := boxes (y := 1) (ty := 38) hrb HO2.out (Only.refl _ _); obtain ⟨d0, d1, d2, df0, df1, df2⟩ := bB.get; clear bA bB; clear T) | (with_reducible refine E2.mono ?_; rintro e w3 ⟨rfl, R3, O3⟩; have G3 := G w3 R3; have HO3 := hid O3; clear R3 O3)))
    | (go_at_call 30; with_reducible refine G3.mono ?_; rintro e w5 ⟨rfl, R5, O5⟩; have HR5 := hid R5; obtain ⟨bA, bB, hbl, oA⟩ := boxes hrb HO2.out (HO3.out.trans O5); have HOA := hid oA; obtain ⟨a0, a1, a2, af0, af1, af2⟩ := bA.get; obtain ⟨v0, v1, v2, vf0, vf1, vf2⟩ := bB.get; clear bA bB oA; clear R5 O5)
    | fail)
  have B := Below.refl w.heap.size w5
  have hne : w.heap.size ≠ w2.heap.size := Nat.ne_of_lt hbl
  refine bodyPost_ret (by simp [results, Try.results29, go_sem, a0, a1, a2]; try rfl) rfl ?_
  exact ⟨HOA.out.then (by go_grown), ⟨_, _, _, rfl⟩, _, HR5.out.below (base := w.heap.size) (by go_grown) hrb⟩

set_option maxHeartbeats 2000000 in
theorem qv_int0 (rb : Nat) (c : UInt8) (u : List UInt8) (w : World) (hR : Rq w rb (c :: u) 0) (hl : u.length + 1 ≤ 140737488351232) (hc : c.toNat = 2) (n : Nat) (r : List UInt8) (hx : numG 0 u = .ok (n, r)) (hp : n % 2 = 0) :
    Calls Try.prog 29 #[.pointer (some ⟨rb, 0, none⟩)] w (qvalEnd rb (.ok (⟨2, unzz n, ⟨#[]⟩⟩, r)) w) := by
  have hrb := hR.lt
  have T := (qone_some rb c u _ (hR.up (.cells #[.int .i64 0, .int .i64 0, .string ⟨#[]⟩] 38)) (by unfold maxLen; omega)).mono (R' := fun e w' => e = .returned (.int .u8 2) ∧ Rq w' rb u 0 ∧ Only rb (w.alloc (.cells #[.int .i64 0, .int .i64 0, .string ⟨#[]⟩] 38)) w') (by rintro e w' ⟨h, r1, o1⟩; exact ⟨by rw [h, hc]; rfl, r1, o1⟩)
  have E := fun w2 (R2 : Rq w2 rb u 0) => qnum_any rb u w2 R2 (by omega)
  rw [hx] at E
  unfold qnumEnd at E
  simp only [] at E
  have hn := numG_lt0 hx
  have Hz : Hid (unzz n = ((n / 2 : Nat) : Int)) := by show _ = _; unfold unzz; rw [if_pos hp]
  have hpi : (n : Int) % 2 = 0 := by omega
  clear hR hx
  go_enter Try.func29, Try.ntmps29
  go_wp2_with (first
    | (go_at_call 40; with_reducible refine T.mono ?_; rintro e w2 ⟨rfl, R2, O2⟩; have HO2 := hid O2; have HR0 := hid R2; have HR2 := hid (R2.up (.cells #[.int .i64 2, .int .i64 0, .string ⟨#[]⟩] 38)); clear R2 O2; have E2 := E _ HR2.out; obtain ⟨bA, bB, _, _⟩ := boxes (y := 2) (ty := 38) hrb HO2.out (Only.refl _ _); obtain ⟨d0, d1, d2, df0, df1, df2⟩ := bB.get; clear bA bB; clear T)
    | (go_at_call 28; with_reducible refine E2.mono ?_; rintro e w3 ⟨O3, rfl, R3⟩; have HR3 := hid R3; obtain ⟨bA, bB, hbl, oA⟩ := boxes hrb HO2.out O3; have HOA := hid oA; obtain ⟨a0, a1, a2, af0, af1, af2⟩ := bA.get; obtain ⟨v0, v1, v2, vf0, vf1, vf2⟩ := bB.get; clear bA bB oA; clear R3 O3)
    | fail)
  have B := Below.refl w.heap.size w3
  have hne : w.heap.size ≠ w2.heap.size := Nat.ne_of_lt hbl
  refine bodyPost_ret (by simp [results, Try.results29, go_sem, a0, a1, a2]; try rfl) rfl ?_
  exact ⟨HOA.out.then (by go_grown), by rw [Hz.out]; simp, HR3.out.below (base := w.heap.size) (by go_grown) hrb⟩

set_option maxHeartbeats 2000000 in
theorem qv_int1 (rb : Nat) (c : UInt8) (u : List UInt8) (w : World) (hR : Rq w rb (c :: u) 0) (hl : u.length + 1 ≤ 140737488351232) (hc : c.toNat = 2) (n : Nat) (r : List UInt8) (hx : numG 0 u = .ok (n, r)) (hp : n % 2 = 1) :
    Calls Try.prog 29 #[.pointer (some ⟨rb, 0, none⟩)] w (qvalEnd rb (.ok (⟨2, unzz n, ⟨#[]⟩⟩, r)) w) := by
  have hrb := hR.lt
  have T := (qone_some rb c u _ (hR.up (.cells #[.int .i64 0, .int .i64 0, .string ⟨#[]⟩] 38)) (by unfold maxLen; omega)).mono (R' := fun e w' => e = .returned (.int .u8 2) ∧ Rq w' rb u 0 ∧ Only rb (w.alloc (.cells #[.int .i64 0, .int .i64 0, .string ⟨#[]⟩] 38)) w') (by rintro e w' ⟨h, r1, o1⟩; exact ⟨by rw [h, hc]; rfl, r1, o1⟩)
  have E := fun w2 (R2 : Rq w2 rb u 0) => qnum_any rb u w2 R2 (by omega)
  rw [hx] at E
  unfold qnumEnd at E
  simp only [] at E
  have hn := numG_lt0 hx
  have Hz : Hid (unzz n = -((n / 2 : Nat) : Int) - 1) := by show _ = _; unfold unzz; rw [if_neg (by omega)]
  have hpi : (n : Int) % 2 = 1 := by omega
  clear hR hx
  go_enter Try.func29, Try.ntmps29
  go_wp2_with (first
    | (go_at_call 40; with_reducible refine T.mono ?_; rintro e w2 ⟨rfl, R2, O2⟩; have HO2 := hid O2; have HR0 := hid R2; have HR2 := hid (R2.up (.cells #[.int .i64 2, .int .i64 0, .string ⟨#[]⟩] 38)); clear R2 O2; have E2 := E _ HR2.out; obtain ⟨bA, bB, _, _⟩ := boxes (y := 2) (ty := 38) hrb HO2.out (Only.refl _ _); obtain ⟨d0, d1, d2, df0, df1, df2⟩ := bB.get; clear bA bB; clear T)
    | (go_at_call 28; with_reducible refine E2.mono ?_; rintro e w3 ⟨O3, rfl, R3⟩; have HR3 := hid R3; obtain ⟨bA, bB, hbl, oA⟩ := boxes hrb HO2.out O3; have HOA := hid oA; obtain ⟨a0, a1, a2, af0, af1, af2⟩ := bA.get; obtain ⟨v0, v1, v2, vf0, vf1, vf2⟩ := bB.get; clear bA bB oA; clear R3 O3)
    | fail)
  have B := Below.refl w.heap.size w3
  have hne : w.heap.size ≠ w2.heap.size := Nat.ne_of_lt hbl
  refine bodyPost_ret (by simp [results, Try.results29, go_sem, a0, a1, a2]; try rfl) rfl ?_
  exact ⟨HOA.out.then (by go_grown), by rw [Hz.out]; simp, HR3.out.below (base := w.heap.size) (by go_grown) hrb⟩

set_option maxHeartbeats 2000000 in
theorem qv_int_bad (rb : Nat) (c : UInt8) (u : List UInt8) (w : World) (hR : Rq w rb (c :: u) 0) (hl : u.length + 1 ≤ 140737488351232) (hc : c.toNat = 2) (k : Int) (hx : numG 0 u = .error k) :
    Calls Try.prog 29 #[.pointer (some ⟨rb, 0, none⟩)] w (qvalEnd rb (.error k) w) := by
  have hrb := hR.lt
  have T := (qone_some rb c u _ (hR.up (.cells #[.int .i64 0, .int .i64 0, .string ⟨#[]⟩] 38)) (by unfold maxLen; omega)).mono (R' := fun e w' => e = .returned (.int .u8 2) ∧ Rq w' rb u 0 ∧ Only rb (w.alloc (.cells #[.int .i64 0, .int .i64 0, .string ⟨#[]⟩] 38)) w') (by rintro e w' ⟨h, r1, o1⟩; exact ⟨by rw [h, hc]; rfl, r1, o1⟩)
  have E := fun w2 (R2 : Rq w2 rb u 0) => qnum_any rb u w2 R2 (by omega)
  rw [hx] at E
  unfold qnumEnd at E
  simp only [] at E
  clear hR hx
  go_enter Try.func29, Try.ntmps29
  go_wp2_with (first
    | (go_at_call 40; with_reducible refine T.mono ?_; rintro e w2 ⟨rfl, R2, O2⟩; have HO2 := hid O2; have HR0 := hid R2; have HR2 := hid (R2.up (.cells #[.int .i64 2, .int .i64 0, .string ⟨#[]⟩] 38)); clear R2 O2; have E2 := E _ HR2.out; obtain ⟨bA, bB, _, _⟩ := boxes (y := 2) (ty := 38) hrb HO2.out (Only.refl _ _); obtain ⟨d0, d1, d2, df0, df1, df2⟩ := bB.get; clear bA bB; clear T)
    | (go_at_call 28; with_reducible refine E2.mono ?_; rintro e w3 ⟨O3, rfl, r3, R3⟩; have HR3 := hid R3; obtain ⟨bA, bB, hbl, oA⟩ := boxes hrb HO2.out O3; have HOA := hid oA; obtain ⟨a0, a1, a2, af0, af1, af2⟩ := bA.get; obtain ⟨v0, v1, v2, vf0, vf1, vf2⟩ := bB.get; clear bA bB oA; clear R3 O3)
    | fail)
  have B := Below.refl w.heap.size w3
  have hne : w.heap.size ≠ w2.heap.size := Nat.ne_of_lt hbl
  refine bodyPost_ret (by simp [results, Try.results29, go_sem, a0, a1, a2]; try rfl) rfl ?_
  exact ⟨HOA.out.then (by go_grown), ⟨_, _, _, rfl⟩, _, HR3.out.below (base := w.heap.size) (by go_grown) hrb⟩

theorem below3 (W : World) (a : Nat) (x y z : Value) : Below a W (((W.setCell ⟨a, 0, none⟩ x).setCell ⟨a, 1, none⟩ y).setCell ⟨a, 2, none⟩ z) := (((Below.refl a W).setCell (p := ⟨a, 0, none⟩) (Nat.le_refl _) x).setCell (p := ⟨a, 1, none⟩) (Nat.le_refl _) y).setCell (p := ⟨a, 2, none⟩) (Nat.le_refl _) z
theorem rq_cut {base : Nat} {w w5 : World} {rb c c' n m : Nat} {r : List UInt8} {p' : Option Addr} {b off : Nat} (B : Below base w w5) (hb : rb < base) (h0 : w.cell? ⟨rb, 0, none⟩ = some (.slice (some ⟨b, off, none⟩) r.length c)) (h1 : w.cell? ⟨rb, 1, none⟩ = some (.int .i64 0)) (f0 : w.frozen? ⟨rb, 0, none⟩ = false) (f1 : w.frozen? ⟨rb, 1, none⟩ = false) (hbr : b < rb)
    (hcells : ∀ i (h : i < r.length), w.cell? ⟨b, off + i, none⟩ = some (.int .u8 (r[i].toNat : Int))) (hm : (r.drop n).length = m) (hc : m ≤ c') (hp : m = 0 ∨ p' = some ⟨b, off + n, none⟩) : Rq (w5.setCell ⟨rb, 0, none⟩ (.slice p' m c')) rb (r.drop n) 0 := by
  refine rq_put (v0 := .slice (some ⟨b, off, none⟩) r.length c) ((B.cell (p := ⟨rb, 0, none⟩) hb).trans h0) ((B.cell (p := ⟨rb, 1, none⟩) hb).trans h1) ((B.frozen (p := ⟨rb, 0, none⟩) hb).trans f0) ((B.frozen (p := ⟨rb, 1, none⟩) hb).trans f1) hm hc ?_
  rcases hp with h | h
  · exact Or.inl (List.length_eq_zero_iff.1 (hm.trans h))
  · refine Or.inr ⟨b, off + n, h, hbr, fun i hi => ?_⟩
    have h2 := hcells (n + i) (by rw [List.length_drop] at hi; omega)
    rw [List.getElem_drop, Nat.add_assoc]
    exact (B.cell (p := ⟨b, off + (n + i), none⟩) (Nat.lt_trans hbr hb)).trans h2
theorem rq_cut0 {base : Nat} {w w5 : World} {rb c c' : Nat} {p p' : Option Addr} (B : Below base w w5) (hb : rb < base) (h0 : w.cell? ⟨rb, 0, none⟩ = some (.slice p 0 c)) (h1 : w.cell? ⟨rb, 1, none⟩ = some (.int .i64 0)) (f0 : w.frozen? ⟨rb, 0, none⟩ = false) (f1 : w.frozen? ⟨rb, 1, none⟩ = false) : Rq (w5.setCell ⟨rb, 0, none⟩ (.slice p' 0 c')) rb [] 0 :=
  rq_put (v0 := .slice p 0 c) ((B.cell (p := ⟨rb, 0, none⟩) hb).trans h0) ((B.cell (p := ⟨rb, 1, none⟩) hb).trans h1) ((B.frozen (p := ⟨rb, 0, none⟩) hb).trans f0) ((B.frozen (p := ⟨rb, 1, none⟩) hb).trans f1) rfl (Nat.zero_le _) (Or.inl rfl)

set_option maxHeartbeats 2000000 in
theorem qv_text3_bad (rb : Nat) (c : UInt8) (u : List UInt8) (w : World) (hR : Rq w rb (c :: u) 0) (hl : u.length + 1 ≤ 140737488351232) (hc : c.toNat = 3) (k : Int) (hx : numG 0 u = .error k) :
    Calls Try.prog 29 #[.pointer (some ⟨rb, 0, none⟩)] w (qvalEnd rb (.error k) w) := by
  have hrb := hR.lt
  have T := (qone_some rb c u _ (hR.up (.cells #[.int .i64 0, .int .i64 0, .string ⟨#[]⟩] 38)) (by unfold maxLen; omega)).mono (R' := fun e w' => e = .returned (.int .u8 3) ∧ Rq w' rb u 0 ∧ Only rb (w.alloc (.cells #[.int .i64 0, .int .i64 0, .string ⟨#[]⟩] 38)) w') (by rintro e w' ⟨h, r1, o1⟩; exact ⟨by rw [h, hc]; rfl, r1, o1⟩)
  have E := fun w2 (R2 : Rq w2 rb u 0) => qnum_any rb u w2 R2 (by omega)
  rw [hx] at E
  unfold qnumEnd at E
  simp only [] at E
  have hk0 : (k == 0) = false := beq_eq_false_iff_ne.2 (numG_err _ _ _ hx)
  clear hR hx
  go_enter Try.func29, Try.ntmps29
  go_wp2_with (first
    | (go_at_call 40; with_reducible refine T.mono ?_; rintro e w2 ⟨rfl, R2, O2⟩; have HO2 := hid O2; have HR0 := hid R2; have HR2 := hid (R2.up (.cells #[.int .i64 3, .int .i64 0, .string ⟨#[]⟩] 38)); clear R2 O2; have E2 := E _ HR2.out; obtain ⟨bA, bB, _, _⟩ := boxes (y := 3) (ty := 38) hrb HO2.out (Only.refl _ _); obtain ⟨d0, d1, d2, df0, df1, df2⟩ := bB.get; clear bA bB; clear T)
    | (go_at_call 28; with_reducible refine E2.mono ?_; rintro e w3 ⟨O3, rfl, r3, R3⟩; have HR3 := hid R3; obtain ⟨p3, c3, h30, h31, f30, f31, _⟩ := R3.get; obtain ⟨bA, bB, hbl, oA⟩ := boxes hrb HO2.out O3; have HOA := hid oA; obtain ⟨a0, a1, a2, af0, af1, af2⟩ := bA.get; obtain ⟨v0, v1, v2, vf0, vf1, vf2⟩ := bB.get; clear bA bB oA; clear R3 O3)
    | fail)
  have B := Below.refl w.heap.size w3
  have hne : w.heap.size ≠ w2.heap.size := Nat.ne_of_lt hbl
  refine bodyPost_ret (by simp [results, Try.results29, go_sem, a0, a1, a2]; try rfl) rfl ?_
  exact ⟨HOA.out.then (by go_grown), ⟨_, _, _, rfl⟩, _, HR3.out.below (base := w.heap.size) (by go_grown) hrb⟩

set_option maxHeartbeats 2000000 in
theorem qv_text3_short (rb : Nat) (c : UInt8) (u : List UInt8) (w : World) (hR : Rq w rb (c :: u) 0) (hl : u.length + 1 ≤ 140737488351232) (hc : c.toNat = 3) (n : Nat) (r : List UInt8) (hx : numG 0 u = .ok (n, r)) (hr : r.length < n) (hrl : r.length ≤ 140737488351232) :
    Calls Try.prog 29 #[.pointer (some ⟨rb, 0, none⟩)] w (qvalEnd rb (.error 1) w) := by
  have hrb := hR.lt
  have T := (qone_some rb c u _ (hR.up (.cells #[.int .i64 0, .int .i64 0, .string ⟨#[]⟩] 38)) (by unfold maxLen; omega)).mono (R' := fun e w' => e = .returned (.int .u8 3) ∧ Rq w' rb u 0 ∧ Only rb (w.alloc (.cells #[.int .i64 0, .int .i64 0, .string ⟨#[]⟩] 38)) w') (by rintro e w' ⟨h, r1, o1⟩; exact ⟨by rw [h, hc]; rfl, r1, o1⟩)
  have E := fun w2 (R2 : Rq w2 rb u 0) => qnum_any rb u w2 R2 (by omega)
  rw [hx] at E
  unfold qnumEnd at E
  simp only [] at E
  have G := fun w2 (R2 : Rq w2 rb r 0) => qfail_new rb r 1 w2 R2
  have hn := numG_lt0 hx
  clear hR hx
  go_enter Try.func29, Try.ntmps29
  go_wp2_with (first
    | (go_at_call 40; with_reducible refine T.mono ?_; rintro e w2 ⟨rfl, R2, O2⟩; have HO2 := hid O2; have HR0 := hid R2; have HR2 := hid (R2.up (.cells #[.int .i64 3, .int .i64 0, .string ⟨#[]⟩] 38)); clear R2 O2; have E2 := E _ HR2.out; obtain ⟨bA, bB, _, _⟩ := boxes (y := 3) (ty := 38) hrb HO2.out (Only.refl _ _); obtain ⟨d0, d1, d2, df0, df1, df2⟩ := bB.get; clear bA bB; clear T)
    | (go_at_call 28; with_reducible refine E2.mono ?_; rintro e w3 ⟨O3, rfl, R3⟩; have G3 := G w3 R3; have HO3 := hid O3; obtain ⟨p3, c3, h30, h31, f30, f31, _⟩ := R3.get; clear R3 O3)
    | (go_at_call 30; with_reducible refine G3.mono ?_; rintro e w5 ⟨rfl, R5, O5⟩; have HR5 := hid R5; obtain ⟨p5, c5, h50, h51, f50, f51, _⟩ := R5.get; obtain ⟨bA, bB, hbl, oA⟩ := boxes hrb HO2.out (HO3.out.trans O5); have HOA := hid oA; obtain ⟨a0, a1, a2, af0, af1, af2⟩ := bA.get; obtain ⟨v0, v1, v2, vf0, vf1, vf2⟩ := bB.get; clear bA bB oA; clear R5 O5)
    | fail)
  have B := Below.refl w.heap.size w5
  have hne : w.heap.size ≠ w2.heap.size := Nat.ne_of_lt hbl
  refine bodyPost_ret (by simp [results, Try.results29, go_sem, a0, a1, a2]; try rfl) rfl ?_
  exact ⟨HOA.out.then (by go_grown), ⟨_, _, _, rfl⟩, _, HR5.out.below (base := w.heap.size) (by go_grown) hrb⟩

set_option maxHeartbeats 2000000 in
theorem qv_text3_nil (rb : Nat) (c : UInt8) (u : List UInt8) (w : World) (hR : Rq w rb (c :: u) 0) (hl : u.length + 1 ≤ 140737488351232) (hc : c.toNat = 3) (hx : numG 0 u = .ok (0, [])) :
    Calls Try.prog 29 #[.pointer (some ⟨rb, 0, none⟩)] w (qvalEnd rb (.ok (⟨3, 0, ⟨#[]⟩⟩, [])) w) := by
  have hrb := hR.lt
  have T := (qone_some rb c u _ (hR.up (.cells #[.int .i64 0, .int .i64 0, .string ⟨#[]⟩] 38)) (by unfold maxLen; omega)).mono (R' := fun e w' => e = .returned (.int .u8 3) ∧ Rq w' rb u 0 ∧ Only rb (w.alloc (.cells #[.int .i64 0, .int .i64 0, .string ⟨#[]⟩] 38)) w') (by rintro e w' ⟨h, r1, o1⟩; exact ⟨by rw [h, hc]; rfl, r1, o1⟩)
  have E := fun w2 (R2 : Rq w2 rb u 0) => qnum_any rb u w2 R2 (by omega)
  rw [hx] at E
  unfold qnumEnd at E
  simp only [] at E
  have E := fun w2 (R2 : Rq w2 rb u 0) => (E w2 R2).mono (R' := fun e w' => e = .returned (.int .u64 0) ∧ Only rb w2 w' ∧ ∃ p c, w'.cell? ⟨rb, 0, none⟩ = some (.slice p 0 c) ∧ w'.cell? ⟨rb, 1, none⟩ = some (.int .i64 0) ∧ w'.frozen? ⟨rb, 0, none⟩ = false ∧ w'.frozen? ⟨rb, 1, none⟩ = false) (by
    rintro e w' ⟨O, he, p, c, h0, h1, f0, f1, _⟩
    exact ⟨he, O, p, c, h0, h1, f0, f1⟩)
  clear hR hx
  go_enter Try.func29, Try.ntmps29
  go_wp2_with (first
    | (go_at_call 40; with_reducible refine T.mono ?_; rintro e w2 ⟨rfl, R2, O2⟩; have HO2 := hid O2; have HR0 := hid R2; have HR2 := hid (R2.up (.cells #[.int .i64 3, .int .i64 0, .string ⟨#[]⟩] 38)); clear R2 O2; have E2 := E _ HR2.out; obtain ⟨bA, bB, _, _⟩ := boxes (y := 3) (ty := 38) hrb HO2.out (Only.refl _ _); obtain ⟨d0, d1, d2, df0, df1, df2⟩ := bB.get; clear bA bB; clear T)
    | (go_at_call 28; with_reducible refine E2.mono ?_; rintro e w3 ⟨rfl, O3, p3, c3, h30, h31, f30, f31⟩; have hcv := fun x => conv_nil x p3 c3; obtain ⟨bA, bB, hbl, oA⟩ := boxes hrb HO2.out O3; have HOA := hid oA; obtain ⟨a0, a1, a2, af0, af1, af2⟩ := bA.get; obtain ⟨v0, v1, v2, vf0, vf1, vf2⟩ := bB.get; clear bA bB oA; clear O3)
    | fail)
  have hne : w.heap.size ≠ w2.heap.size := Nat.ne_of_lt hbl
  have hne2 : rb ≠ w2.heap.size := by omega
  have hne3 : rb ≠ w.heap.size := by omega
  have hne4 : w2.heap.size ≠ rb := by omega
  cases p3
  all_goals
    go_wp2
    refine bodyPost_ret (by simp [results, Try.results29, go_sem, a0, a1, a2]; try rfl) rfl ?_
    have B1 : Below w.heap.size w3 (w3.setCell ⟨w2.heap.size, 2, none⟩ (.string ⟨#[]⟩)) := (Below.refl _ _).setCell (p := ⟨w2.heap.size, 2, none⟩) (Nat.le_of_lt hbl) _
    exact ⟨((HOA.out.then B1).trans (only_put _ rb 0 _)).then (below3 _ _ _ _ _), rfl, (rq_cut0 B1 hrb h30 h31 f30 f31).below (below3 _ _ _ _ _) hrb⟩

set_option maxHeartbeats 2000000 in
theorem qv_text3 (rb : Nat) (c : UInt8) (u : List UInt8) (w : World) (hR : Rq w rb (c :: u) 0) (hl : u.length + 1 ≤ 140737488351232) (hc : c.toNat = 3) (n : Nat) (r : List UInt8) (hx : numG 0 u = .ok (n, r)) (hle : n ≤ r.length) (hr0 : r ≠ []) (hrl : r.length ≤ 140737488351232) :
    Calls Try.prog 29 #[.pointer (some ⟨rb, 0, none⟩)] w (qvalEnd rb (.ok (⟨3, 0, ⟨(r.take n).toArray⟩⟩, r.drop n)) w) := by
  have hrb := hR.lt
  have T := (qone_some rb c u _ (hR.up (.cells #[.int .i64 0, .int .i64 0, .string ⟨#[]⟩] 38)) (by unfold maxLen; omega)).mono (R' := fun e w' => e = .returned (.int .u8 3) ∧ Rq w' rb u 0 ∧ Only rb (w.alloc (.cells #[.int .i64 0, .int .i64 0, .string ⟨#[]⟩] 38)) w') (by rintro e w' ⟨h, r1, o1⟩; exact ⟨by rw [h, hc]; rfl, r1, o1⟩)
  have E := fun w2 (R2 : Rq w2 rb u 0) => qnum_any rb u w2 R2 (by omega)
  rw [hx] at E
  unfold qnumEnd at E
  simp only [] at E
  have E := fun w2 (R2 : Rq w2 rb u 0) => (E w2 R2).mono (R' := fun e w' => e = .returned (.int .u64 (n : Int)) ∧ Only rb w2 w' ∧ ∃ b off c, w'.cell? ⟨rb, 0, none⟩ = some (.slice (some ⟨b, off, none⟩) r.length c) ∧ w'.cell? ⟨rb, 1, none⟩ = some (.int .i64 0) ∧ w'.frozen? ⟨rb, 0, none⟩ = false ∧ w'.frozen? ⟨rb, 1, none⟩ = false ∧ r.length ≤ c ∧ b < rb ∧ ∀ i (h : i < r.length), w'.cell? ⟨b, off + i, none⟩ = some (.int .u8 (r[i].toNat : Int))) (by
    rintro e w' ⟨O, he, p, c, h0, h1, f0, f1, a3, a4 | ⟨b, off, hp, hb, hcells⟩⟩
    · exact absurd a4 hr0
    · subst hp
      exact ⟨he, O, b, off, c, h0, h1, f0, f1, a3, hb, hcells⟩)
  have Hdl : Hid ((r.drop n).length = r.length - n) := List.length_drop
  have hn := numG_lt0 hx
  clear hR hx
  go_enter Try.func29, Try.ntmps29
  go_wp2_with (first
    | (go_at_call 40; with_reducible refine T.mono ?_; rintro e w2 ⟨rfl, R2, O2⟩; have HO2 := hid O2; have HR0 := hid R2; have HR2 := hid (R2.up (.cells #[.int .i64 3, .int .i64 0, .string ⟨#[]⟩] 38)); clear R2 O2; have E2 := E _ HR2.out; obtain ⟨bA, bB, _, _⟩ := boxes (y := 3) (ty := 38) hrb HO2.out (Only.refl _ _); obtain ⟨d0, d1, d2, df0, df1, df2⟩ := bB.get; clear bA bB; clear T)
    | (go_at_call 28; with_reducible refine E2.mono ?_; rintro e w3 ⟨rfl, O3, b3, off3, c3, h30, h31, f30, f31, hc3, hb3, hcells⟩; have HC := hid hcells; have hcv := conv_take (c := c3) hcells hle; obtain ⟨bA, bB, hbl, oA⟩ := boxes hrb HO2.out O3; have HOA := hid oA; obtain ⟨a0, a1, a2, af0, af1, af2⟩ := bA.get; obtain ⟨v0, v1, v2, vf0, vf1, vf2⟩ := bB.get; clear bA bB oA; clear O3 hcells)
    | fail)
  all_goals
    rename_i hc1
    have hne : w.heap.size ≠ w2.heap.size := Nat.ne_of_lt hbl
    refine bodyPost_ret (by simp [results, Try.results29, go_sem, a0, a1, a2]; try rfl) rfl ?_
    have B1 : Below w.heap.size w3 (w3.setCell ⟨w2.heap.size, 2, none⟩ (.string ⟨(r.take n).toArray⟩)) := (Below.refl _ _).setCell (p := ⟨w2.heap.size, 2, none⟩) (Nat.le_of_lt hbl) _
    exact ⟨((HOA.out.then B1).trans (only_put _ rb 0 _)).then (below3 _ _ _ _ _), rfl, (rq_cut B1 hrb h30 h31 f30 f31 hb3 HC.out Hdl.out (by omega) (by first | exact Or.inr rfl | exact Or.inl (by omega))).below (below3 _ _ _ _ _) hrb⟩

set_option maxHeartbeats 2000000 in
theorem qv_text4_bad (rb : Nat) (c : UInt8) (u : List UInt8) (w : World) (hR : Rq w rb (c :: u) 0) (hl : u.length + 1 ≤ 140737488351232) (hc : c.toNat = 4) (k : Int) (hx : numG 0 u = .error k) :
    Calls Try.prog 29 #[.pointer (some ⟨rb, 0, none⟩)] w (qvalEnd rb (.error k) w) := by
  have hrb := hR.lt
  have T := (qone_some rb c u _ (hR.up (.cells #[.int .i64 0, .int .i64 0, .string ⟨#[]⟩] 38)) (by unfold maxLen; omega)).mono (R' := fun e w' => e = .returned (.int .u8 4) ∧ Rq w' rb u 0 ∧ Only rb (w.alloc (.cells #[.int .i64 0, .int .i64 0, .string ⟨#[]⟩] 38)) w') (by rintro e w' ⟨h, r1, o1⟩; exact ⟨by rw [h, hc]; rfl, r1, o1⟩)
  have E := fun w2 (R2 : Rq w2 rb u 0) => qnum_any rb u w2 R2 (by omega)
  rw [hx] at E
  unfold qnumEnd at E
  simp only [] at E
  have hk0 : (k == 0) = false := beq_eq_false_iff_ne.2 (numG_err _ _ _ hx)
  clear hR hx
  go_enter Try.func29, Try.ntmps29
  go_wp2_with (first
    | (go_at_call 40; with_reducible refine T.mono ?_; rintro e w2 ⟨rfl, R2, O2⟩; have HO2 := hid O2; have HR0 := hid R2; have HR2 := hid (R2.up (.cells #[.int .i64 4, .int .i64 0, .string ⟨#[]⟩] 38)); clear R2 O2; have E2 := E _ HR2.out; obtain ⟨bA, bB, _, _⟩ := boxes (y := 4) (ty := 38) hrb HO2.out (Only.refl _ _); obtain ⟨d0, d1, d2, df0, df1, df2⟩ := bB.get; clear bA bB; clear T)
    | (go_at_call 28; with_reducible refine E2.mono ?_; rintro e w3 ⟨O3, rfl, r3, R3⟩; have HR3 := hid R3; obtain ⟨p3, c3, h30, h31, f30, f31, _⟩ := R3.get; obtain ⟨bA, bB, hbl, oA⟩ := boxes hrb HO2.out O3; have HOA := hid oA; obtain ⟨a0, a1, a2, af0, af1, af2⟩ := bA.get; obtain ⟨v0, v1, v2, vf0, vf1, vf2⟩ := bB.get; clear bA bB oA; clear R3 O3)
    | fail)
  have B := Below.refl w.heap.size w3
  have hne : w.heap.size ≠ w2.heap.size := Nat.ne_of_lt hbl
  refine bodyPost_ret (by simp [results, Try.results29, go_sem, a0, a1, a2]; try rfl) rfl ?_
  exact ⟨HOA.out.then (by go_grown), ⟨_, _, _, rfl⟩, _, HR3.out.below (base := w.heap.size) (by go_grown) hrb⟩

set_option maxHeartbeats 2000000 in
theorem qv_text4_short (rb : Nat) (c : UInt8) (u : List UInt8) (w : World) (hR : Rq w rb (c :: u) 0) (hl : u.length + 1 ≤ 140737488351232) (hc : c.toNat = 4) (n : Nat) (r : List UInt8) (hx : numG 0 u = .ok (n, r)) (hr : r.length < n) (hrl : r.length ≤ 140737488351232) :
    Calls Try.prog 29 #[.pointer (some ⟨rb, 0, none⟩)] w (qvalEnd rb (.error 1) w) := by
  have hrb := hR.lt
  have T := (qone_some rb c u _ (hR.up (.cells #[.int .i64 0, .int .i64 0, .string ⟨#[]⟩] 38)) (by unfold maxLen; omega)).mono (R' := fun e w' => e = .returned (.int .u8 4) ∧ Rq w' rb u 0 ∧ Only rb (w.alloc (.cells #[.int .i64 0, .int .i64 0, .string ⟨#[]⟩] 38)) w') (by rintro e w' ⟨h, r1, o1⟩; exact ⟨by rw [h, hc]; rfl, r1, o1⟩)
  have E := fun w2 (R2 : Rq w2 rb u 0) => qnum_any rb u w2 R2 (by omega)
  rw [hx] at E
  unfold qnumEnd at E
  simp only [] at E
  have G := fun w2 (R2 : Rq w2 rb r 0) => qfail_new rb r 1 w2 R2
  have hn := numG_lt0 hx
  clear hR hx
  go_enter Try.func29, Try.ntmps29
  go_wp2_with (first
    | (go_at_call 40; with_reducible refine T.mono ?_; rintro e w2 ⟨rfl, R2, O2⟩; have HO2 := hid O2; have HR0 := hid R2; have HR2 := hid (R2.up (.cells #[.int .i64 4, .int .i64 0, .string ⟨#[]⟩] 38)); clear R2 O2; have E2 := E _ HR2.out; obtain ⟨bA, bB, _, _⟩ := boxes (y := 4) (ty := 38) hrb HO2.out (Only.refl _ _); obtain ⟨d0, d1, d2, df0, df1, df2⟩ := bB.get; clear bA bB; clear T)
    | (go_at_call 28; with_reducible refine E2.mono ?_; rintro e w3 ⟨O3, rfl, R3⟩; have G3 := G w3 R3; have HO3 := hid O3; obtain ⟨p3, c3, h30, h31, f30, f31, _⟩ := R3.get; clear R3 O3)
    | (go_at_call 30; with_reducible refine G3.mono ?_; rintro e w5 ⟨rfl, R5, O5⟩; have HR5 := hid R5; obtain ⟨p5, c5, h50, h51, f50, f51, _⟩ := R5.get; obtain ⟨bA, bB, hbl, oA⟩ := boxes hrb HO2.out (HO3.out.trans O5); have HOA := hid oA; obtain ⟨a0, a1, a2, af0, af1, af2⟩ := bA.get; obtain ⟨v0, v1, v2, vf0, vf1, vf2⟩ := bB.get; clear bA bB oA; clear R5 O5)
    | fail)
  have B := Below.refl w.heap.size w5
  have hne : w.heap.size ≠ w2.heap.size := Nat.ne_of_lt hbl
  refine bodyPost_ret (by simp [results, Try.results29, go_sem, a0, a1, a2]; try rfl) rfl ?_
  exact ⟨HOA.out.then (by go_grown), ⟨_, _, _, rfl⟩, _, HR5.out.below (base := w.heap.size) (by go_grown) hrb⟩

set_option maxHeartbeats 2000000 in
theorem qv_text4_nil (rb : Nat) (c : UInt8) (u : List UInt8) (w : World) (hR : Rq w rb (c :: u) 0) (hl : u.length + 1 ≤ 140737488351232) (hc : c.toNat = 4) (hx : numG 0 u = .ok (0, [])) :
    Calls Try.prog 29 #[.pointer (some ⟨rb, 0, none⟩)] w (qvalEnd rb (.ok (⟨4, 0, ⟨#[]⟩⟩, [])) w) := by
  have hrb := hR.lt
  have T := (qone_some rb c u _ (hR.up (.cells #[.int .i64 0, .int .i64 0, .string ⟨#[]⟩] 38)) (by unfold maxLen; omega)).mono (R' := fun e w' => e = .returned (.int .u8 4) ∧ Rq w' rb u 0 ∧ Only rb (w.alloc (.cells #[.int .i64 0, .int .i64 0, .string ⟨#[]⟩] 38)) w') (by rintro e w' ⟨h, r1, o1⟩; exact ⟨by rw [h, hc]; rfl, r1, o1⟩)
  have E := fun w2 (R2 : Rq w2 rb u 0) => qnum_any rb u w2 R2 (by omega)
  rw [hx] at E
  unfold qnumEnd at E
  simp only [] at E
  have E := fun w2 (R2 : Rq w2 rb u 0) => (E w2 R2).mono (R' := fun e w' => e = .returned (.int .u64 0) ∧ Only rb w2 w' ∧ ∃ p c, w'.cell? ⟨rb, 0, none⟩ = some (.slice p 0 c) ∧ w'.cell? ⟨rb, 1, none⟩ = some (.int .i64 0) ∧ w'.frozen? ⟨rb, 0, none⟩ = false ∧ w'.frozen? ⟨rb, 1, none⟩ = false) (by
    rintro e w' ⟨O, he, p, c, h0, h1, f0, f1, _⟩
    exact ⟨he, O, p, c, h0, h1, f0, f1⟩)
  clear hR hx
  go_enter Try.func29, Try.ntmps29
  go_wp2_with (first
    | (go_at_call 40; with_reducible refine T.mono ?_; rintro e w2 ⟨rfl, R2, O2⟩; have HO2 := hid O2; have HR0 := hid R2; have HR2 := hid (R2.up (.cells #[.int .i64 4, .int .i64 0, .string ⟨#[]⟩] 38)); clear R2 O2; have E2 := E _ HR2.out; obtain ⟨bA, bB, _, _⟩ := boxes (y := 4) (ty := 38) hrb HO2.out (Only.refl _ _); obtain ⟨d0, d1, d2, df0, df1, df2⟩ := bB.get; clear bA bB; clear T)
    | (go_at_call 28; with_reducible refine E2.mono ?_; rintro e w3 ⟨rfl, O3, p3, c3, h30, h31, f30, f31⟩; have hcv := fun x => conv_nil x p3 c3; obtain ⟨bA, bB, hbl, oA⟩ := boxes hrb HO2.out O3; have HOA := hid oA; obtain ⟨a0, a1, a2, af0, af1, af2⟩ := bA.get; obtain ⟨v0, v1, v2, vf0, vf1, vf2⟩ := bB.get; clear bA bB oA; clear O3)
    | fail)
  have hne : w.heap.size ≠ w2.heap.size := Nat.ne_of_lt hbl
  have hne2 : rb ≠ w2.heap.size := by omega
  have hne3 : rb ≠ w.heap.size := by omega
  have hne4 : w2.heap.size ≠ rb := by omega
  cases p3
  all_goals
    go_wp2
    refine bodyPost_ret (by simp [results, Try.results29, go_sem, a0, a1, a2]; try rfl) rfl ?_
    have B1 : Below w.heap.size w3 (w3.setCell ⟨w2.heap.size, 2, none⟩ (.string ⟨#[]⟩)) := (Below.refl _ _).setCell (p := ⟨w2.heap.size, 2, none⟩) (Nat.le_of_lt hbl) _
    exact ⟨((HOA.out.then B1).trans (only_put _ rb 0 _)).then (below3 _ _ _ _ _), rfl, (rq_cut0 B1 hrb h30 h31 f30 f31).below (below3 _ _ _ _ _) hrb⟩

set_option maxHeartbeats 2000000 in
theorem qv_text4 (rb : Nat) (c : UInt8) (u : List UInt8) (w : World) (hR : Rq w rb (c :: u) 0) (hl : u.length + 1 ≤ 140737488351232) (hc : c.toNat = 4) (n : Nat) (r : List UInt8) (hx : numG 0 u = .ok (n, r)) (hle : n ≤ r.length) (hr0 : r ≠ []) (hrl : r.length ≤ 140737488351232) :
    Calls Try.prog 29 #[.pointer (some ⟨rb, 0, none⟩)] w (qvalEnd rb (.ok (⟨4, 0, ⟨(r.take n).toArray⟩⟩, r.drop n)) w) := by
  have hrb := hR.lt
  have T := (qone_some rb c u _ (hR.up (.cells #[.int .i64 0, .int .i64 0, .string ⟨#[]⟩] 38)) (by unfold maxLen; omega)).mono (R' := fun e w' => e = .returned (.int .u8 4) ∧ Rq w' rb u 0 ∧ Only rb (w.alloc (.cells #[.int .i64 0, .int .i64 0, .string ⟨#[]⟩] 38)) w') (by rintro e w' ⟨h, r1, o1⟩; exact ⟨by rw [h, hc]; rfl, r1, o1⟩)
  have E := fun w2 (R2 : Rq w2 rb u 0) => qnum_any rb u w2 R2 (by omega)
  rw [hx] at E
  unfold qnumEnd at E
  simp only [] at E
  have E := fun w2 (R2 : Rq w2 rb u 0) => (E w2 R2).mono (R' := fun e w' => e = .returned (.int .u64 (n : Int)) ∧ Only rb w2 w' ∧ ∃ b off c, w'.cell? ⟨rb, 0, none⟩ = some (.slice (some ⟨b, off, none⟩) r.length c) ∧ w'.cell? ⟨rb, 1, none⟩ = some (.int .i64 0) ∧ w'.frozen? ⟨rb, 0, none⟩ = false ∧ w'.frozen? ⟨rb, 1, none⟩ = false ∧ r.length ≤ c ∧ b < rb ∧ ∀ i (h : i < r.length), w'.cell? ⟨b, off + i, none⟩ = some (.int .u8 (r[i].toNat : Int))) (by
    rintro e w' ⟨O, he, p, c, h0, h1, f0, f1, a3, a4 | ⟨b, off, hp, hb, hcells⟩⟩
    · exact absurd a4 hr0
    · subst hp
      exact ⟨he, O, b, off, c, h0, h1, f0, f1, a3, hb, hcells⟩)
  have Hdl : Hid ((r.drop n).length = r.length - n) := List.length_drop
  have hn := numG_lt0 hx
  clear hR hx
  go_enter Try.func29, Try.ntmps29
  go_wp2_with (first
    | (go_at_call 40; with_reducible refine T.mono ?_; rintro e w2 ⟨rfl, R2, O2⟩; have HO2 := hid O2; have HR0 := hid R2; have HR2 := hid (R2.up (.cells #[.int .i64 4, .int .i64 0, .string ⟨#[]⟩] 38)); clear R2 O2; have E2 := E _ HR2.out; obtain ⟨bA, bB, _, _⟩ := boxes (y := 4) (ty := 38) hrb HO2.out (Only.refl _ _); obtain ⟨d0, d1, d2, df0, df1, df2⟩ := bB.get; clear bA bB; clear T)
    | (go_at_call 28; with_reducible refine E2.mono ?_; rintro e w3 ⟨rfl, O3, b3, off3, c3, h30, h31, f30, f31, hc3, hb3, hcells⟩; have HC := hid hcells; have hcv := conv_take (c := c3) hcells hle; obtain ⟨bA, bB, hbl, oA⟩ := boxes hrb HO2.out O3; have HOA := hid oA; obtain ⟨a0, a1, a2, af0, af1, af2⟩ := bA.get; obtain ⟨v0, v1, v2, vf0, vf1, vf2⟩ := bB.get; clear bA bB oA; clear O3 hcells)
    | fail)
  all_goals
    rename_i hc1
    have hne : w.heap.size ≠ w2.heap.size := Nat.ne_of_lt hbl
    refine bodyPost_ret (by simp [results, Try.results29, go_sem, a0, a1, a2]; try rfl) rfl ?_
    have B1 : Below w.heap.size w3 (w3.setCell ⟨w2.heap.size, 2, none⟩ (.string ⟨(r.take n).toArray⟩)) := (Below.refl _ _).setCell (p := ⟨w2.heap.size, 2, none⟩) (Nat.le_of_lt hbl) _
    exact ⟨((HOA.out.then B1).trans (only_put _ rb 0 _)).then (below3 _ _ _ _ _), rfl, (rq_cut B1 hrb h30 h31 f30 f31 hb3 HC.out Hdl.out (by omega) (by first | exact Or.inr rfl | exact Or.inl (by omega))).below (below3 _ _ _ _ _) hrb⟩

theorem qvalue_any (rb : Nat) (u : List UInt8) (w : World) (hR : Rq w rb u 0) (hl : u.length ≤ 140737488351232) :
    Calls Try.prog 29 #[.pointer (some ⟨rb, 0, none⟩)] w (qvalEnd rb (valW u) w) := by
  cases u with
  | nil => exact qv_none rb w hR
  | cons c u =>
    have hl' : u.length + 1 ≤ 140737488351232 := by simpa using hl
    simp only [valW]
    by_cases h0 : c.toNat = 0
    · rw [if_pos h0]
      exact qv_null rb c u w hR hl' h0
    rw [if_neg h0]
    by_cases h1 : c.toNat = 1
    · rw [if_pos h1]
      cases u with
      | nil => exact qv_bool_none rb c w hR h1
      | cons d u =>
        simp only []
        by_cases hd : 1 < d.toNat
        · rw [if_pos hd]
          exact qv_bool_bad rb c d u w hR (by simpa using hl') h1 hd
        · rw [if_neg hd]
          exact qv_bool rb c d u w hR (by simpa using hl') h1 (by omega)
    rw [if_neg h1]
    by_cases h2 : c.toNat = 2
    · rw [if_pos h2]
      cases hx : numG 0 u with
      | error n => exact qv_int_bad rb c u w hR hl' h2 n hx
      | ok x =>
        obtain ⟨n, r⟩ := x
        have hp : n % 2 = 0 ∨ n % 2 = 1 := by omega
        rcases hp with hp | hp
        · exact qv_int0 rb c u w hR hl' h2 n r hx hp
        · exact qv_int1 rb c u w hR hl' h2 n r hx hp
    rw [if_neg h2]
    by_cases h4 : c.toNat = 3 ∨ c.toNat = 4
    · rw [if_pos h4]
      cases hx : numG 0 u with
      | error n =>
        rcases h4 with h | h
        · exact qv_text3_bad rb c u w hR hl' h n hx
        · exact qv_text4_bad rb c u w hR hl' h n hx
      | ok x =>
        obtain ⟨n, r⟩ := x
        have hrl : r.length ≤ 140737488351232 := by
          obtain ⟨k, e1, e2, _⟩ := numG_rest u 0 n r hx
          rw [e1, List.length_drop]
          omega
        simp only []
        by_cases hr : r.length < n
        · rw [if_pos hr]
          rcases h4 with h | h
          · exact qv_text3_short rb c u w hR hl' h n r hx hr hrl
          · exact qv_text4_short rb c u w hR hl' h n r hx hr hrl
        · rw [if_neg hr]
          by_cases hr0 : r = []
          · subst hr0
            obtain rfl : n = 0 := by simpa using hr
            rcases h4 with h | h
            · rw [h]
              exact qv_text3_nil rb c u w hR hl' h hx
            · rw [h]
              exact qv_text4_nil rb c u w hR hl' h hx
          · rcases h4 with h | h
            · rw [h]
              exact qv_text3 rb c u w hR hl' h n r hx (by omega) hr0 hrl
            · rw [h]
              exact qv_text4 rb c u w hR hl' h n r hx (by omega) hr0 hrl
    · rw [if_neg h4]
      exact qv_bad rb c u w hR hl' (by omega)
end Go.Proofs.Ytaoeonbhlpnjiaa
