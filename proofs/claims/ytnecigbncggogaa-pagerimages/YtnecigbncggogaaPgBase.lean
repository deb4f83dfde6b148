/- A pager of the project in memory; what Pages, Root, Move, lay and Format's steps do. Condition: fewer than a million writes are pending. -/
import Derived.Test.YtnecigbncggogaaPgHeadOf
import Derived.BigQuiet
namespace Go.Proofs.Ytnecigbncggogaa
open Go.RowKit
set_option linter.unusedVariables false
set_option maxRecDepth 20000

def pcells (db : Nat) (k : Pk) : List Value := [.pointer (some ⟨db, 0, none⟩), .int .i64 (k.gen : Int), .int .i64 (k.root : Int), .bool k.failed]
/-- A pager at a block, over the disk at another. -/
def Pag (w : World) (pb db : Nat) (k : Pk) : Prop := Blk w pb (pcells db k) 97
theorem Pag.cells {w : World} {pb db : Nat} {k : Pk} (h : Pag w pb db k) : w.cell? ⟨pb, 0, none⟩ = some (.pointer (some ⟨db, 0, none⟩)) ∧ w.cell? ⟨pb, 1, none⟩ = some (.int .i64 (k.gen : Int)) ∧ w.cell? ⟨pb, 2, none⟩ = some (.int .i64 (k.root : Int)) ∧ w.cell? ⟨pb, 3, none⟩ = some (.bool k.failed) ∧ ∀ i, w.frozen? ⟨pb, i, none⟩ = false :=
  ⟨Blk.cell h 0, Blk.cell h 1, Blk.cell h 2, Blk.cell h 3, fun i => Blk.frozen h i⟩
theorem Pag.kept {Z : Nat → Prop} {w w' : World} {pb db : Nat} {k : Pk} (h : Pag w pb db k) (K : Kept Z w w') (hz : Z pb) : Pag w' pb db k := K.blk h hz
theorem Pag.below {w w' : World} {pb db : Nat} {k : Pk} (h : Pag w pb db k) (B : Below w.heap.size w w') : Pag w' pb db k := Blk.below h B (Blk.lt h)
theorem Pag.drew {w : World} {pb db : Nat} {k : Pk} (h : Pag w pb db k) : Pag w.drew pb db k := h
variable {s : Nat} {w0 w : World} {db : Nat} {d : Dk} {Z : Nat → Prop}
theorem DW.turn (h : DW s w0 w db d Z) {w' : World} {g : Nat} (hz : Z g) (hs : s ≤ g) (C : ∀ F : Nat → Prop, F g → Chg F w w') : DW s w0 w' db d Z := by
  have c := C (· = g) rfl
  exact ⟨h.bel.trans (c.below (fun k e => by rw [e]; exact hs) h.size), Nat.le_trans h.size c.size, fun k hk => Nat.lt_of_lt_of_le (h.lt k hk) c.size, h.pd.chg c (fun k f e => f.2 (by rw [e]; exact hz))⟩
theorem DW.dlt (h : DW s w0 w db d Z) : db < w.heap.size := by
  obtain ⟨lb, nb, pv, P, _⟩ := h.pd
  exact P.lt (Or.inl rfl)
theorem DW.drew (h : DW s w0 w db d Z) : DW s w0 w.drew db d Z := h.grow (Below.refl _ _).drew
theorem Kept.refl (Z : Nat → Prop) (w : World) : Kept Z w w := ⟨Nat.le_refl _, fun _ _ => rfl⟩
theorem DW.kgrow (h : DW s w0 w db d Z) {w' : World} (B : Below w.heap.size w w') : Kept (old s Z) w w' := Kept.of_below B (fun k hk => by
  rcases hk with hk | hk
  · have := h.size; omega
  · exact h.lt k hk)
set_option maxHeartbeats 1000000 in
theorem ppages_any (pb : Nat) (k : Pk) (h : DW s w0 w db d Z) (P : Pag w pb db k) :
    Calls Try.prog 21 #[.pointer (some ⟨pb, 0, none⟩)] w fun e w' => e = .returned (.int .i64 (d.pages : Int)) ∧ w' = w := by
  have C := hid h.pages
  obtain ⟨p0, p1, p2, p3, pf⟩ := P.cells
  clear h P
  go_enter Try.func21, Try.ntmps21
  go_wp2_with (first
    | (go_at_call 39; with_reducible refine C.out.mono ?_; rintro e w3 ⟨rfl, hw⟩; subst hw)
    | fail)
  go_ret
  exact ⟨rfl, rfl⟩
set_option maxHeartbeats 1000000 in
theorem proot_any (pb : Nat) (k : Pk) (P : Pag w pb db k) :
    Calls Try.prog 20 #[.pointer (some ⟨pb, 0, none⟩)] w fun e w' => e = .returned (.tuple #[.int .i64 (k.root : Int), .int .i64 (k.gen : Int)]) ∧ Below w.heap.size w w' := by
  obtain ⟨p0, p1, p2, p3, pf⟩ := P.cells
  clear P
  go_enter Try.func20, Try.ntmps20
  go_wp2
  go_quiet (fail)
  go_wp2
  go_ret2
  exact ⟨rfl, below_dn (Below.refl _ _) _⟩
set_option maxHeartbeats 1000000 in
theorem pmove_any (pb cb : Nat) (k : Pk) (P : Pag w pb db k) :
    Calls Try.prog 54 #[.pointer (some ⟨pb, 0, none⟩), .pointer (some ⟨cb, 0, none⟩)] w fun e w' => e = .returned (.pointer (some ⟨w.heap.size, 0, none⟩)) ∧ Pag w' w.heap.size cb k ∧ Below w.heap.size w w' ∧ w'.heap.size = w.heap.size + 1 := by
  obtain ⟨p0, p1, p2, p3, pf⟩ := P.cells
  have HN := hid (Blk.new w (pcells cb k) 97)
  unfold pcells at HN
  clear P
  go_enter Try.func54, Try.ntmps54
  go_wp2
  go_ret
  exact ⟨rfl, HN.out, (Below.refl _ _).alloc (Nat.le_refl _) _, by simp⟩
set_option maxHeartbeats 1000000 in
theorem lay_any (G R : Nat) (h : DW s w0 w db d Z) (hG : G < 9223372036854775808) (hR : R < 9223372036854775808) (hm : d.pend.length < 1000000) :
    Calls Try.prog 42 #[.pointer (some ⟨db, 0, none⟩), .agg #[.int .i64 (G : Int), .int .i64 (R : Int)]] w fun e w' => e = .returned (.int .i64 (d.wrErr ((G % 2 : Nat) : Int) (headPage G R))) ∧ DW s w0 w' db (d.wr ((G % 2 : Nat) : Int) (headPage G R)) Z ∧ Kept (old s Z) w w' := by
  have hx := Blk.new w (hcells G R) 88
  have x0 := hx.cell 0
  have x1 := hx.cell 1
  have HX := hid hx
  have HB0 : Hid (Below w.heap.size w (w.alloc (.cells (hcells G R).toArray 88)).drew) := ((Below.refl _ _).alloc (Nat.le_refl _) _).drew
  have CH : Hid (∀ w5 : World, Calls Try.prog 72 #[.agg #[.int .i64 (G : Int), .int .i64 (R : Int)]] w5 fun e w' => e = .returned (.int .i64 ((G % 2 : Nat) : Int)) ∧ Below w5.heap.size w5 w') := fun w5 => (home_any G R w5 hG).mono (fun e w' x => ⟨x.1, by rw [x.2]; exact (Below.refl _ _).alloc (Nat.le_refl _) _⟩)
  have CP := hid (fun w5 => page_ex G R w5 hG hR)
  have HZ := hid h
  have HD := hid (h.add HB0.out)
  have hdl := h.dlt
  have CW : Hid (∀ (w5 : World) (q : Nat), DW s w0 w5 db d (fun k => Z k ∨ (w.heap.size ≤ k ∧ k < (w.alloc (.cells (hcells G R).toArray 88)).drew.heap.size)) → Blk w5 q (bcells (headPage G R)) 5 → q ≠ db → Calls Try.prog 38 #[.pointer (some ⟨db, 0, none⟩), .int .i64 ((G % 2 : Nat) : Int), .slice (some ⟨q, 0, none⟩) 512 512] w5 fun e w' => e = .returned (.int .i64 (d.wrErr ((G % 2 : Nat) : Int) (headPage G R))) ∧ DW s w0 w' db (d.wr ((G % 2 : Nat) : Int) (headPage G R)) (fun k => Z k ∨ (w.heap.size ≤ k ∧ k < (w.alloc (.cells (hcells G R).toArray 88)).drew.heap.size)) ∧ Kept (old s (fun k => Z k ∨ (w.heap.size ≤ k ∧ k < (w.alloc (.cells (hcells G R).toArray 88)).drew.heap.size))) w5 w') := fun w5 q h5 b5 hq => by
    have := h5.write ((G % 2 : Nat) : Int) (some ⟨q, 0, none⟩) (headPage G R) 512 b5.byts' (fun g off e => by simp only [Option.some.injEq, Addr.mk.injEq, and_true] at e; rw [← e.1]; exact Or.inr (Or.inr hq)) hm
    rwa [headPage_len] at this
  clear h hx
  unfold hcells at *
  generalize ((G % 2 : Nat) : Int) = S2 at *
  go_enter Try.func42, Try.ntmps42
  go_wp2
  have HS0 : Hid (w.heap.size < (w.alloc (.cells #[.int .i64 (G : Int), .int .i64 (R : Int)] 88)).drew.heap.size) := by show _ < _; simp [World.drew]
  have HXd := hid HX.out.drew
  go_region_held_law (fun w' => w'.cell? ⟨w.heap.size, 0, none⟩ = some (.int .i64 (G : Int)) ∧ w'.cell? ⟨w.heap.size, 1, none⟩ = some (.int .i64 (R : Int))) (first | exact ⟨x0, x1⟩ | exact ⟨HX9.out.cell 0, HX9.out.cell 1⟩ | exact ⟨HX8.out.cell 0, HX8.out.cell 1⟩ | exact ⟨HX7.out.cell 0, HX7.out.cell 1⟩)
    (first
      | (go_at_call 72; first
          | (with_reducible refine (CH.out _).mono ?_; rintro e w8 ⟨rfl, L8⟩; have HB8 := hid (HB7.out.below L8 HB7.out.lt); have HX8 := hid (HX7.out.below L8 HX7.out.lt); have HL8 := hid (HL7.out.trans (L8.mono HL7.out.size)); clear L8)
          | (with_reducible refine (CH.out _).mono ?_; rintro e w7 ⟨rfl, L7⟩; have HX7 := hid (HXd.out.below L7 HS0.out); have HL7 := hid L7; clear L7))
      | (go_at_call 73; first
          | (with_reducible refine (CP.out _).mono ?_; rintro e w8 ⟨q, rfl, B8, L8, Q8⟩; have HB8 := hid B8; have HX8 := hid (HX7.out.below L8 HX7.out.lt); have HQ := hid (Nat.le_trans HB0.out.size (Nat.le_trans HL7.out.size Q8)); have HL8 := hid (HL7.out.trans (L8.mono HL7.out.size)); clear B8 L8 Q8)
          | (with_reducible refine (CP.out _).mono ?_; rintro e w7 ⟨q, rfl, B7, L7, Q7⟩; have HB7 := hid B7; have HX7 := hid (HXd.out.below L7 HS0.out); have HQ := hid (Nat.le_trans HB0.out.size Q7); have HL7 := hid L7; clear B7 L7 Q7))
      | (go_at_call 38; go_loud (with_reducible refine (CW.out _ q (HD.out.grow HL8.out) HB8.out (by have := HQ.out; omega)).mono ?_); rintro e w9 ⟨rfl, D9, K9⟩; have HD9 := hid D9; have HK9 := hid K9; have HX9 := hid (K9.blk HX8.out (Or.inr (Or.inr ⟨Nat.le_refl _, HS0.out⟩))); clear D9 K9)
      | fail)
  all_goals go_wp2
  all_goals go_ret
  all_goals
    refine ⟨rfl, HD9.out.less (fun k z => Or.inl z), (HZ.out.kgrow (HB0.out.trans (HL8.out.mono HB0.out.size))).trans (HK9.out.mono (fun k o => ?_))⟩
    rcases o with o | o
    · exact Or.inl o
    · exact Or.inr (Or.inl o)
end Go.Proofs.Ytnecigbncggogaa
