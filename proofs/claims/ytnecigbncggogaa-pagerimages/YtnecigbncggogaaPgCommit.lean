/- What a commit of the project's pager does. Condition: fewer than a million writes are pending; at least three pages. -/
import Derived.Test.YtnecigbncggogaaPgTurn
namespace Go.Proofs.Ytnecigbncggogaa
open Go.RowKit
set_option linter.unusedVariables false
set_option maxRecDepth 20000
variable {s : Nat} {w0 w : World} {db : Nat} {d : Dk} {Z : Nat → Prop}

set_option maxHeartbeats 1000000 in
theorem cm1_any (bp bh pb : Nat) (k : Pk) (G R : Nat) (h : DW s w0 w db d Z) (b1 : Blk w bp [.pointer (some ⟨pb, 0, none⟩)] 36) (P : Pag w pb db k) (b2 : Blk w bh [.int .i64 (G : Int), .int .i64 (R : Int)] 88) (z1 : Z bp) (z2 : Z pb) (z3 : Z bh) (hG : G < 9223372036854775808) (hR : R < 9223372036854775808) (hm : d.pend.length < 1000000) :
    Calls Try.prog 60 #[.pointer (some ⟨bp, 0, none⟩), .pointer (some ⟨bh, 0, none⟩)] w fun e w' => e = .returned (.int .i64 (d.wrErr ((G % 2 : Nat) : Int) (headPage G R))) ∧ DW s w0 w' db (d.wr ((G % 2 : Nat) : Int) (headPage G R)) Z ∧ Kept (old s Z) w w' := by
  have C := hid (lay_any G R h.drew hG hR hm)
  have x0 := b1.cell 0
  have x1 := b2.cell 0
  have x2 := b2.cell 1
  obtain ⟨p0, p1, p2, p3, pf⟩ := P.cells
  have HB1 := hid b1
  have HB2 := hid b2
  have HP := hid P
  have hz1 : Hid (old s Z bp) := Or.inr z1
  have hz2 : Hid (old s Z pb) := Or.inr z2
  have hz3 : Hid (old s Z bh) := Or.inr z3
  clear h b1 b2 P p1 p2 p3
  generalize ((G % 2 : Nat) : Int) = S2 at *
  go_enter Try.func60, Try.ntmps60
  go_wp2
  go_region_held_law (fun w' => w'.cell? ⟨bp, 0, none⟩ = some (.pointer (some ⟨pb, 0, none⟩)) ∧ w'.cell? ⟨pb, 0, none⟩ = some (.pointer (some ⟨db, 0, none⟩)) ∧ w'.cell? ⟨bh, 0, none⟩ = some (.int .i64 (G : Int)) ∧ w'.cell? ⟨bh, 1, none⟩ = some (.int .i64 (R : Int))) (first | exact ⟨x0, p0, x1, x2⟩ | exact ⟨(HK3.out.blk HB1.out hz1.out).cell 0, (HP.out.kept HK3.out hz2.out).cells.1, (HK3.out.blk HB2.out hz3.out).cell 0, (HK3.out.blk HB2.out hz3.out).cell 1⟩)
    (first
      | (go_at_call 42; go_loud (with_reducible refine C.out.mono ?_); rintro e w3 ⟨rfl, D3, K3⟩; have HD3 := hid D3; have HK3 : Hid (Kept (old s Z) w w3) := K3; clear D3 K3)
      | fail)
  all_goals go_wp2
  all_goals go_ret
  all_goals exact ⟨rfl, HD3.out, HK3.out⟩
theorem Pag.failed {w : World} {pb db : Nat} {k : Pk} (h : Pag w pb db k) (b : Bool) : Pag (w.setCell ⟨pb, 3, none⟩ (.bool b)) pb db ⟨k.gen, k.root, b⟩ := Blk.set (i := 3) h _
theorem Pag.newest {w : World} {pb db : Nat} {k : Pk} (h : Pag w pb db k) (G R : Nat) : Pag ((w.setCell ⟨pb, 1, none⟩ (.int .i64 (G : Int))).setCell ⟨pb, 2, none⟩ (.int .i64 (R : Int))) pb db ⟨G, R, k.failed⟩ := Blk.set (i := 2) (Blk.set (i := 1) h _) _
theorem DW.set (h : DW s w0 w db d Z) {g i : Nat} (hz : Z g) (hs : s ≤ g) (v : Value) : DW s w0 (w.setCell ⟨g, i, none⟩ v) db d Z := h.turn hz hs (fun F hF => chg_set w g i v hF)
theorem kept_set (Y : Nat → Prop) (w : World) {g i : Nat} (hn : ¬ Y g) (v : Value) : Kept Y w (w.setCell ⟨g, i, none⟩ v) := ⟨by rw [set_size]; exact Nat.le_refl _, fun k hk => set_block (by rintro rfl; exact hn hk)⟩
theorem Dk.cm_seq (d : Dk) (g r : Nat) : seqErr d.syErr (d.sy.wrErr ((g % 2 : Nat) : Int) (headPage g r)) ((d.sy.wr ((g % 2 : Nat) : Int) (headPage g r)).syErr) = d.cmErr g r ∧
    seqDk d.syErr (d.sy.wrErr ((g % 2 : Nat) : Int) (headPage g r)) d.sy (d.sy.wr ((g % 2 : Nat) : Int) (headPage g r)) ((d.sy.wr ((g % 2 : Nat) : Int) (headPage g r)).sy) = d.cm g r := ⟨rfl, rfl⟩
set_option maxHeartbeats 1000000 in
theorem commit_failed (pb : Nat) (n : Int) (k : Pk) (P : Pag w pb db k) (hf : k.failed = true) :
    Calls Try.prog 26 #[.pointer (some ⟨pb, 0, none⟩), .int .i64 n] w fun e w' => e = .returned (.int .i64 9) ∧ Below w.heap.size w w' := by
  have hb := Blk.new w [.pointer (some ⟨pb, 0, none⟩)] 36
  have x0 := hb.cell 0
  have HB0 : Hid (Below w.heap.size w (w.alloc (.cells #[.pointer (some ⟨pb, 0, none⟩)] 36))) := (Below.refl _ _).alloc (Nat.le_refl _) _
  obtain ⟨p0, p1, p2, p3, pf⟩ := (P.below HB0.out).cells
  rw [hf] at p3
  clear P hb
  go_enter Try.func26, Try.ntmps26
  go_wp2
  go_ret
  exact ⟨rfl, HB0.out⟩
theorem DW.isroot (d : Dk) (n : Int) (w5 : World) : Calls Try.prog 59 #[.int .i64 n, .int .i64 (d.pages : Int)] w5 fun e w' => e = .returned (.bool (d.rootOk n)) ∧ w' = w5 := isroot_any n (d.pages : Int) w5
set_option maxHeartbeats 1000000 in
theorem commit_range (pb : Nat) (n : Int) (k : Pk) (h : DW s w0 w db d Z) (P : Pag w pb db k) (hf : k.failed = false) (hr : d.rootOk n = false) :
    Calls Try.prog 26 #[.pointer (some ⟨pb, 0, none⟩), .int .i64 n] w fun e w' => e = .returned (.int .i64 2) ∧ Below w.heap.size w w' := by
  have hb := Blk.new w [.pointer (some ⟨pb, 0, none⟩)] 36
  have x0 := hb.cell 0
  have HB0 : Hid (Below w.heap.size w (w.alloc (.cells #[.pointer (some ⟨pb, 0, none⟩)] 36))) := (Below.refl _ _).alloc (Nat.le_refl _) _
  have C1 := hid (ppages_any pb k (h.grow HB0.out) (P.below HB0.out))
  have C2 := hid (DW.isroot d n)
  rw [hr] at C2
  obtain ⟨p0, p1, p2, p3, pf⟩ := (P.below HB0.out).cells
  rw [hf] at p3
  clear P hb h
  go_enter Try.func26, Try.ntmps26
  go_wp2_with (first
    | (go_at_call 21; go_loud (with_reducible refine C1.out.mono ?_); rintro e w3 ⟨rfl, hw⟩; subst hw)
    | (go_at_call 59; go_loud (with_reducible refine (C2.out _).mono ?_); rintro e w3 ⟨rfl, hw⟩; subst hw)
    | fail)
  go_ret
  exact ⟨rfl, HB0.out⟩
/-- What a commit that goes its steps ends with. -/
def cmEnd (s : Nat) (w0 w : World) (db pb : Nat) (d : Dk) (Z : Nat → Prop) (k : Pk) (n : Nat) (e : Ending) (w' : World) : Prop :=
  e = .returned (.int .i64 (d.cmErr (k.gen + 1) n)) ∧ DW s w0 w' db (d.cm (k.gen + 1) n) Z ∧ Pag w' pb db (if d.cmErr (k.gen + 1) n = 0 then ⟨k.gen + 1, n, false⟩ else ⟨k.gen, k.root, true⟩) ∧ Kept (fun j => old s Z j ∧ j ≠ pb) w w'
set_option maxHeartbeats 2000000 in
theorem commit_steps (pb : Nat) (n : Nat) (k : Pk) (h : DW s w0 w db d Z) (P : Pag w pb db k) (hz : Z pb) (hs : s ≤ pb) (hf : k.failed = false) (hr : d.rootOk n = true) (hk : k.gen < 9223372036854775800) (hp : 3 ≤ d.pages) (hm : d.pend.length < 999990) :
    Calls Try.prog 26 #[.pointer (some ⟨pb, 0, none⟩), .int .i64 (n : Int)] w (cmEnd s w0 w db pb d Z k n) := by
  have hmf : ∀ (fn : Fn) (first cap : Array Value) (w : World), (Instr.makeFunc fn first cap).run Try.prog w = .ok (.func fn first cap) w := fun _ _ _ _ => rfl
  have hn63 : n < 9223372036854775808 := by
    have hpg := h.okk.pages
    simp only [Dk.rootOk, Dk.rangeErr, Bool.or_eq_true, decide_eq_true_eq] at hr
    omega
  have hb := Blk.new w [.pointer (some ⟨pb, 0, none⟩)] 36
  have x0 := hb.cell 0
  have HB0 : Hid (Below w.heap.size w (w.alloc (.cells #[.pointer (some ⟨pb, 0, none⟩)] 36))) := (Below.refl _ _).alloc (Nat.le_refl _) _
  have C1 := hid (ppages_any pb k (h.grow HB0.out) (P.below HB0.out))
  have C2 := hid (DW.isroot d n)
  rw [hr] at C2
  obtain ⟨p0, p1, p2, p3, pf⟩ := (P.below HB0.out).cells
  rw [hf] at p3
  have HBx : Hid (Below w.heap.size w (((w.alloc (.cells #[.pointer (some ⟨pb, 0, none⟩)] 36)).alloc (.cells #[.int .i64 ((k.gen : Int) + 1), .int .i64 (n : Int)] 88)).alloc (.cells #[.func (.func 44) #[.pointer (some ⟨db, 0, none⟩)] #[], .func (.func 60) #[] #[.pointer (some ⟨w.heap.size, 0, none⟩), .pointer (some ⟨w.heap.size + 1, 0, none⟩)], .func (.func 44) #[.pointer (some ⟨db, 0, none⟩)] #[]] 89)).drew) := (((HB0.out.alloc (by simp) _).alloc (by simp; omega) _)).drew
  have HSx : Hid (((((w.alloc (.cells #[.pointer (some ⟨pb, 0, none⟩)] 36)).alloc (.cells #[.int .i64 ((k.gen : Int) + 1), .int .i64 (n : Int)] 88)).alloc (.cells #[.func (.func 44) #[.pointer (some ⟨db, 0, none⟩)] #[], .func (.func 60) #[] #[.pointer (some ⟨w.heap.size, 0, none⟩), .pointer (some ⟨w.heap.size + 1, 0, none⟩)], .func (.func 44) #[.pointer (some ⟨db, 0, none⟩)] #[]] 89)).drew).heap.size = w.heap.size + 3) := by show _ = _; simp [World.drew]
  have g1 : Blk (((w.alloc (.cells #[.pointer (some ⟨pb, 0, none⟩)] 36)).alloc (.cells #[.int .i64 ((k.gen : Int) + 1), .int .i64 (n : Int)] 88)).alloc (.cells #[.func (.func 44) #[.pointer (some ⟨db, 0, none⟩)] #[], .func (.func 60) #[] #[.pointer (some ⟨w.heap.size, 0, none⟩), .pointer (some ⟨w.heap.size + 1, 0, none⟩)], .func (.func 44) #[.pointer (some ⟨db, 0, none⟩)] #[]] 89)).drew w.heap.size [.pointer (some ⟨pb, 0, none⟩)] 36 := ((hb.alloc _).alloc _).drew
  have g2 : Blk (((w.alloc (.cells #[.pointer (some ⟨pb, 0, none⟩)] 36)).alloc (.cells #[.int .i64 ((k.gen : Int) + 1), .int .i64 (n : Int)] 88)).alloc (.cells #[.func (.func 44) #[.pointer (some ⟨db, 0, none⟩)] #[], .func (.func 60) #[] #[.pointer (some ⟨w.heap.size, 0, none⟩), .pointer (some ⟨w.heap.size + 1, 0, none⟩)], .func (.func 44) #[.pointer (some ⟨db, 0, none⟩)] #[]] 89)).drew (w.heap.size + 1) [.int .i64 ((k.gen + 1 : Nat) : Int), .int .i64 (n : Int)] 88 := by
    have q := Blk.new (w.alloc (.cells #[.pointer (some ⟨pb, 0, none⟩)] 36)) [.int .i64 ((k.gen : Int) + 1), .int .i64 (n : Int)] 88
    rw [show (w.alloc (.cells #[.pointer (some ⟨pb, 0, none⟩)] 36)).heap.size = w.heap.size + 1 by simp] at q
    exact (q.alloc _).drew
  have g3 : Blk (((w.alloc (.cells #[.pointer (some ⟨pb, 0, none⟩)] 36)).alloc (.cells #[.int .i64 ((k.gen : Int) + 1), .int .i64 (n : Int)] 88)).alloc (.cells #[.func (.func 44) #[.pointer (some ⟨db, 0, none⟩)] #[], .func (.func 60) #[] #[.pointer (some ⟨w.heap.size, 0, none⟩), .pointer (some ⟨w.heap.size + 1, 0, none⟩)], .func (.func 44) #[.pointer (some ⟨db, 0, none⟩)] #[]] 89)).drew (w.heap.size + 2) [.func (.func 44) #[.pointer (some ⟨db, 0, none⟩)] #[], .func (.func 60) #[] #[.pointer (some ⟨w.heap.size, 0, none⟩), .pointer (some ⟨w.heap.size + 1, 0, none⟩)], .func (.func 44) #[.pointer (some ⟨db, 0, none⟩)] #[]] 89 := by
    have q := Blk.new ((w.alloc (.cells #[.pointer (some ⟨pb, 0, none⟩)] 36)).alloc (.cells #[.int .i64 ((k.gen : Int) + 1), .int .i64 (n : Int)] 88)) [.func (.func 44) #[.pointer (some ⟨db, 0, none⟩)] #[], .func (.func 60) #[] #[.pointer (some ⟨w.heap.size, 0, none⟩), .pointer (some ⟨w.heap.size + 1, 0, none⟩)], .func (.func 44) #[.pointer (some ⟨db, 0, none⟩)] #[]] 89
    rw [show (((w.alloc (.cells #[.pointer (some ⟨pb, 0, none⟩)] 36)).alloc (.cells #[.int .i64 ((k.gen : Int) + 1), .int .i64 (n : Int)] 88))).heap.size = w.heap.size + 2 by simp] at q
    exact q.drew
  have HZ2 := h.add HBx.out
  have hs3 := HSx.out
  have G2 : ∀ w' : World, DW s w0 w' db d.sy (fun j => Z j ∨ (w.heap.size ≤ j ∧ j < ((((w.alloc (.cells #[.pointer (some ⟨pb, 0, none⟩)] 36)).alloc (.cells #[.int .i64 ((k.gen : Int) + 1), .int .i64 (n : Int)] 88)).alloc (.cells #[.func (.func 44) #[.pointer (some ⟨db, 0, none⟩)] #[], .func (.func 60) #[] #[.pointer (some ⟨w.heap.size, 0, none⟩), .pointer (some ⟨w.heap.size + 1, 0, none⟩)], .func (.func 44) #[.pointer (some ⟨db, 0, none⟩)] #[]] 89)).drew).heap.size)) → Kept (old s (fun j => Z j ∨ (w.heap.size ≤ j ∧ j < ((((w.alloc (.cells #[.pointer (some ⟨pb, 0, none⟩)] 36)).alloc (.cells #[.int .i64 ((k.gen : Int) + 1), .int .i64 (n : Int)] 88)).alloc (.cells #[.func (.func 44) #[.pointer (some ⟨db, 0, none⟩)] #[], .func (.func 60) #[] #[.pointer (some ⟨w.heap.size, 0, none⟩), .pointer (some ⟨w.heap.size + 1, 0, none⟩)], .func (.func 44) #[.pointer (some ⟨db, 0, none⟩)] #[]] 89)).drew).heap.size))) (((w.alloc (.cells #[.pointer (some ⟨pb, 0, none⟩)] 36)).alloc (.cells #[.int .i64 ((k.gen : Int) + 1), .int .i64 (n : Int)] 88)).alloc (.cells #[.func (.func 44) #[.pointer (some ⟨db, 0, none⟩)] #[], .func (.func 60) #[] #[.pointer (some ⟨w.heap.size, 0, none⟩), .pointer (some ⟨w.heap.size + 1, 0, none⟩)], .func (.func 44) #[.pointer (some ⟨db, 0, none⟩)] #[]] 89)).drew w' → Calls Try.prog 60 #[.pointer (some ⟨w.heap.size, 0, none⟩), .pointer (some ⟨w.heap.size + 1, 0, none⟩)] w' fun e w'' => e = .returned (.int .i64 (d.sy.wrErr (((k.gen + 1) % 2 : Nat) : Int) (headPage (k.gen + 1) n))) ∧ DW s w0 w'' db (d.sy.wr (((k.gen + 1) % 2 : Nat) : Int) (headPage (k.gen + 1) n)) (fun j => Z j ∨ (w.heap.size ≤ j ∧ j < ((((w.alloc (.cells #[.pointer (some ⟨pb, 0, none⟩)] 36)).alloc (.cells #[.int .i64 ((k.gen : Int) + 1), .int .i64 (n : Int)] 88)).alloc (.cells #[.func (.func 44) #[.pointer (some ⟨db, 0, none⟩)] #[], .func (.func 60) #[] #[.pointer (some ⟨w.heap.size, 0, none⟩), .pointer (some ⟨w.heap.size + 1, 0, none⟩)], .func (.func 44) #[.pointer (some ⟨db, 0, none⟩)] #[]] 89)).drew).heap.size)) ∧ Kept (old s (fun j => Z j ∨ (w.heap.size ≤ j ∧ j < ((((w.alloc (.cells #[.pointer (some ⟨pb, 0, none⟩)] 36)).alloc (.cells #[.int .i64 ((k.gen : Int) + 1), .int .i64 (n : Int)] 88)).alloc (.cells #[.func (.func 44) #[.pointer (some ⟨db, 0, none⟩)] #[], .func (.func 60) #[] #[.pointer (some ⟨w.heap.size, 0, none⟩), .pointer (some ⟨w.heap.size + 1, 0, none⟩)], .func (.func 44) #[.pointer (some ⟨db, 0, none⟩)] #[]] 89)).drew).heap.size))) w' w'' := fun w' D K =>
    cm1_any w.heap.size (w.heap.size + 1) pb k (k.gen + 1) n D (K.blk g1 (Or.inr (Or.inr ⟨by omega, by omega⟩))) ((P.below HBx.out).kept K (Or.inr (Or.inl hz))) (K.blk g2 (Or.inr (Or.inr ⟨by omega, by omega⟩))) (Or.inr ⟨by omega, by omega⟩) (Or.inl hz) (Or.inr ⟨by omega, by omega⟩) (by omega) hn63 (by have := d.pend_sy; omega)
  have HT := inturn_cm w.heap.size (w.heap.size + 1) (w.heap.size + 2) d.syErr (d.sy.wrErr (((k.gen + 1) % 2 : Nat) : Int) (headPage (k.gen + 1) n)) ((d.sy.wr (((k.gen + 1) % 2 : Nat) : Int) (headPage (k.gen + 1) n)).syErr) d.sy (d.sy.wr (((k.gen + 1) % 2 : Nat) : Int) (headPage (k.gen + 1) n)) ((d.sy.wr (((k.gen + 1) % 2 : Nat) : Int) (headPage (k.gen + 1) n)).sy) HZ2 (Or.inr ⟨by omega, by omega⟩) g3
    (fun w' D K => D.sync (by omega)) G2 (fun w' D K => D.sync (by have := d.pend_sy; have := d.sy.pend_wr (((k.gen + 1) % 2 : Nat) : Int) (headPage (k.gen + 1) n); omega))
  rw [(d.cm_seq (k.gen + 1) n).1, (d.cm_seq (k.gen + 1) n).2] at HT
  have HTT := hid HT
  have HG1 := hid g1
  have HG2 := hid g2
  have HPx := hid (P.below HBx.out)
  have HZZ := hid hz
  have HSS := hid hs
  have HH := hid h
  have HE := hid (d.cmErr_cases (k.gen + 1) n hp)
  have HKZ : Hid (∀ w3 : World, Kept (old s (fun j => Z j ∨ (w.heap.size ≤ j ∧ j < ((((w.alloc (.cells #[.pointer (some ⟨pb, 0, none⟩)] 36)).alloc (.cells #[.int .i64 ((k.gen : Int) + 1), .int .i64 (n : Int)] 88)).alloc (.cells #[.func (.func 44) #[.pointer (some ⟨db, 0, none⟩)] #[], .func (.func 60) #[] #[.pointer (some ⟨w.heap.size, 0, none⟩), .pointer (some ⟨w.heap.size + 1, 0, none⟩)], .func (.func 44) #[.pointer (some ⟨db, 0, none⟩)] #[]] 89)).drew).heap.size))) (((w.alloc (.cells #[.pointer (some ⟨pb, 0, none⟩)] 36)).alloc (.cells #[.int .i64 ((k.gen : Int) + 1), .int .i64 (n : Int)] 88)).alloc (.cells #[.func (.func 44) #[.pointer (some ⟨db, 0, none⟩)] #[], .func (.func 60) #[] #[.pointer (some ⟨w.heap.size, 0, none⟩), .pointer (some ⟨w.heap.size + 1, 0, none⟩)], .func (.func 44) #[.pointer (some ⟨db, 0, none⟩)] #[]] 89)).drew w3 → Kept (old s Z) w w3) := fun w3 K => (h.kgrow HBx.out).trans (K.mono (fun j o => by rcases o with o | o; exact Or.inl o; exact Or.inr (Or.inl o)))
  have m1 : Hid (old s (fun j => Z j ∨ (w.heap.size ≤ j ∧ j < ((((w.alloc (.cells #[.pointer (some ⟨pb, 0, none⟩)] 36)).alloc (.cells #[.int .i64 ((k.gen : Int) + 1), .int .i64 (n : Int)] 88)).alloc (.cells #[.func (.func 44) #[.pointer (some ⟨db, 0, none⟩)] #[], .func (.func 60) #[] #[.pointer (some ⟨w.heap.size, 0, none⟩), .pointer (some ⟨w.heap.size + 1, 0, none⟩)], .func (.func 44) #[.pointer (some ⟨db, 0, none⟩)] #[]] 89)).drew).heap.size)) w.heap.size) := Or.inr (Or.inr ⟨by omega, by omega⟩)
  have m2 : Hid (old s (fun j => Z j ∨ (w.heap.size ≤ j ∧ j < ((((w.alloc (.cells #[.pointer (some ⟨pb, 0, none⟩)] 36)).alloc (.cells #[.int .i64 ((k.gen : Int) + 1), .int .i64 (n : Int)] 88)).alloc (.cells #[.func (.func 44) #[.pointer (some ⟨db, 0, none⟩)] #[], .func (.func 60) #[] #[.pointer (some ⟨w.heap.size, 0, none⟩), .pointer (some ⟨w.heap.size + 1, 0, none⟩)], .func (.func 44) #[.pointer (some ⟨db, 0, none⟩)] #[]] 89)).drew).heap.size)) (w.heap.size + 1)) := Or.inr (Or.inr ⟨by omega, by omega⟩)
  have m3 : Hid (old s (fun j => Z j ∨ (w.heap.size ≤ j ∧ j < ((((w.alloc (.cells #[.pointer (some ⟨pb, 0, none⟩)] 36)).alloc (.cells #[.int .i64 ((k.gen : Int) + 1), .int .i64 (n : Int)] 88)).alloc (.cells #[.func (.func 44) #[.pointer (some ⟨db, 0, none⟩)] #[], .func (.func 60) #[] #[.pointer (some ⟨w.heap.size, 0, none⟩), .pointer (some ⟨w.heap.size + 1, 0, none⟩)], .func (.func 44) #[.pointer (some ⟨db, 0, none⟩)] #[]] 89)).drew).heap.size)) pb) := Or.inr (Or.inl hz)
  have hkf := hid hf
  have hpx : ((((w.alloc (.cells #[.pointer (some ⟨pb, 0, none⟩)] 36)).alloc (.cells #[.int .i64 ((k.gen : Int) + 1), .int .i64 (n : Int)] 88)).alloc (.cells #[.func (.func 44) #[.pointer (some ⟨db, 0, none⟩)] #[], .func (.func 60) #[] #[.pointer (some ⟨w.heap.size, 0, none⟩), .pointer (some ⟨w.heap.size + 1, 0, none⟩)], .func (.func 44) #[.pointer (some ⟨db, 0, none⟩)] #[]] 89)).drew).cell? ⟨w.heap.size, 0, none⟩ = some (.pointer (some ⟨pb, 0, none⟩)) := g1.cell 0
  have hpy := HPx.out.cells.1
  have hqx : (((w.alloc (.cells #[.pointer (some ⟨pb, 0, none⟩)] 36)).alloc (.cells #[.int .i64 ((k.gen : Int) + 1), .int .i64 (n : Int)] 88))).drew.cell? ⟨w.heap.size, 0, none⟩ = some (.pointer (some ⟨pb, 0, none⟩)) := (hb.alloc _).drew.cell 0
  have hqy : (((w.alloc (.cells #[.pointer (some ⟨pb, 0, none⟩)] 36)).alloc (.cells #[.int .i64 ((k.gen : Int) + 1), .int .i64 (n : Int)] 88))).drew.cell? ⟨pb, 0, none⟩ = some (.pointer (some ⟨db, 0, none⟩)) := (P.below (w' := (((w.alloc (.cells #[.pointer (some ⟨pb, 0, none⟩)] 36)).alloc (.cells #[.int .i64 ((k.gen : Int) + 1), .int .i64 (n : Int)] 88))).drew) (HB0.out.alloc (by simp) _).drew).cells.1
  clear G2 HT HZ2 g1 g2 g3 hb h hz hs hf hr hp hm P hs3 hn63 HB0
  unfold cmEnd
  generalize hEq : d.cmErr (k.gen + 1) n = E at *
  generalize d.cm (k.gen + 1) n = D' at *
  clear hEq
  go_enter Try.func26, Try.ntmps26
  go_wp2_with (first
    | (go_at_call 21; go_loud (with_reducible refine C1.out.mono ?_); rintro e w3 ⟨rfl, hw⟩; subst hw)
    | (go_at_call 59; go_loud (with_reducible refine (C2.out _).mono ?_); rintro e w3 ⟨rfl, hw⟩; subst hw)
    | fail)
  go_region_held_law (fun w' => w'.cell? ⟨w.heap.size, 0, none⟩ = some (.pointer (some ⟨pb, 0, none⟩)) ∧ w'.cell? ⟨pb, 0, none⟩ = some (.pointer (some ⟨db, 0, none⟩))) (first | with_reducible exact ⟨hqx, hqy⟩ | with_reducible exact ⟨hpx, hpy⟩ | exact ⟨HX3.out.cell 0, HP3.out.cells.1⟩)
    (first
      | (go_at_call 40; go_loud (refine HTT.out.mono ?_); rintro e w3 ⟨rfl, D3, K3⟩; have HD3 := hid D3; have HK3 := hid (HKZ.out w3 K3); have HX3 := hid (K3.blk HG1.out m1.out); have HN3 := hid (K3.blk HG2.out m2.out); have HP3 := hid (HPx.out.kept K3 m3.out); clear D3 K3)
      | fail)
  all_goals (
    have e30 := HX3.out.cell 0
    obtain ⟨p30, p31, p32, p33, pf3⟩ := HP3.out.cells
    have n30 := HN3.out.cell 0
    have n31 := HN3.out.cell 1
    by_cases hE : E = 0
    · subst hE
      go_wp2
      go_ret
      refine ⟨rfl, ((HD3.out.less (fun j z => Or.inl z)).set HZZ.out HSS.out _).set HZZ.out HSS.out _, ?_, ((HK3.out.mono (fun j o => o.1)).trans (kept_set _ w3 (fun o => o.2 rfl) _)).trans (kept_set _ _ (fun o => o.2 rfl) _)⟩
      have q := HP3.out.newest (k.gen + 1) n
      rw [hkf.out] at q
      exact q
    · obtain rfl : E = 9 := by have := HE.out; omega
      go_wp2
      go_ret
      exact ⟨rfl, (HD3.out.less (fun j z => Or.inl z)).set HZZ.out HSS.out _, HP3.out.failed true, (HK3.out.mono (fun j o => o.1)).trans (kept_set _ w3 (fun o => o.2 rfl) _)⟩)
/-- Commit. -/
theorem DW.commit (pb : Nat) (n : Int) (k : Pk) (h : DW s w0 w db d Z) (P : Pag w pb db k) (hz : Z pb) (hs : s ≤ pb) (hk : k.gen < 9223372036854775800) (hp : 3 ≤ d.pages) (hm : d.pend.length < 999990) :
    Calls Try.prog 26 #[.pointer (some ⟨pb, 0, none⟩), .int .i64 n] w fun e w' => e = .returned (.int .i64 (k.cmErr d n)) ∧ DW s w0 w' db (k.cmDk d n) Z ∧ Pag w' pb db (k.cm d n) ∧ Kept (fun j => old s Z j ∧ j ≠ pb) w w' := by
  unfold Pk.cmErr Pk.cmDk Pk.cm
  cases hf : k.failed
  · simp only [Bool.false_eq_true, if_false]
    cases hr : d.rootOk n
    · simp only [if_true]
      refine (commit_range pb n k h P hf hr).mono ?_
      rintro e w' ⟨he, B⟩
      exact ⟨he, h.grow B, P.below B, (h.kgrow B).mono (fun j o => o.1)⟩
    · simp only [Bool.true_eq_false, if_false]
      obtain ⟨m, rfl⟩ : ∃ m : Nat, n = (m : Int) := by
        simp only [Dk.rootOk, Dk.rangeErr, Bool.or_eq_true, decide_eq_true_eq] at hr
        exact ⟨n.toNat, by omega⟩
      rw [Int.toNat_natCast]
      exact commit_steps pb m k h P hz hs hf hr hk hp hm
  · simp only [if_true]
    refine (commit_failed pb n k P hf).mono ?_
    rintro e w' ⟨he, B⟩
    exact ⟨he, h.grow B, P.below B, (h.kgrow B).mono (fun j o => o.1)⟩
end Go.Proofs.Ytnecigbncggogaa
