/- A pager over a disk with power, beside other blocks: what a law's walk asks; what fresh, load and works do. No conditions. -/
import Derived.Test.YtnecigbncggogaaPgRW
import Derived.Test.YtnecigbncggogaaPgFree
import Derived.Lib.SlBytesConst
namespace Go.Proofs.Ytnecigbncggogaa
open Go.RowKit
set_option linter.unusedVariables false
set_option maxRecDepth 20000

/-- A pager at a block over a disk with power, all new, beside protected blocks. -/
structure FW (s : Nat) (w0 w : World) (db pb P : Nat) (H : Int → List UInt8) (c : Nat) (k : Pk) (Z : Nat → Prop) : Prop where
  ex : ∃ d, DW s w0 w db d Z ∧ Fr d P H c
  pag : Pag w pb db k
  z : Z pb
  hs : s ≤ pb
variable {s : Nat} {w0 w : World} {db pb P c : Nat} {H : Int → List UInt8} {k : Pk} {Z : Nat → Prop}
theorem FW.bel (h : FW s w0 w db pb P H c k Z) : Below s w0 w := by obtain ⟨d, D, _⟩ := h.ex; exact D.bel
theorem FW.size (h : FW s w0 w db pb P H c k Z) : s ≤ w.heap.size := by obtain ⟨d, D, _⟩ := h.ex; exact D.size
theorem FW.lt (h : FW s w0 w db pb P H c k Z) : ∀ j, Z j → j < w.heap.size := by obtain ⟨d, D, _⟩ := h.ex; exact D.lt
theorem FW.grow (h : FW s w0 w db pb P H c k Z) {w' : World} (B : Below w.heap.size w w') : FW s w0 w' db pb P H c k Z := by
  obtain ⟨d, D, F⟩ := h.ex
  exact ⟨⟨d, D.grow B, F⟩, h.pag.below B, h.z, h.hs⟩
theorem FW.add (h : FW s w0 w db pb P H c k Z) {w' : World} (B : Below w.heap.size w w') : FW s w0 w' db pb P H c k (fun j => Z j ∨ (w.heap.size ≤ j ∧ j < w'.heap.size)) := by
  obtain ⟨d, D, F⟩ := h.ex
  exact ⟨⟨d, D.add B, F⟩, h.pag.below B, Or.inl h.z, h.hs⟩
theorem FW.kgrow (h : FW s w0 w db pb P H c k Z) {w' : World} (B : Below w.heap.size w w') : Kept (old s Z) w w' := by
  obtain ⟨d, D, F⟩ := h.ex
  exact D.kgrow B
theorem FW.turn (h : FW s w0 w db pb P H c k Z) {w' : World} {g : Nat} (hz : Z g) (hs : s ≤ g) (hn : g ≠ pb) (C : ∀ F : Nat → Prop, F g → Chg F w w') : FW s w0 w' db pb P H c k Z := by
  obtain ⟨d, D, F⟩ := h.ex
  refine ⟨⟨d, D.turn hz hs C, F⟩, ?_, h.z, h.hs⟩
  exact Blk.chg h.pag (C (· = g) rfl) (fun e => hn e.symm)
theorem FW.write (h : FW s w0 w db pb P H c k Z) {n : Int} (sp : Option Addr) (b : List UInt8) (cap : Nat) (h0 : 2 ≤ n) (h1 : n < P) (hb : b.length = 508) (hy : Byts w sp b) (hc : c < 1000) :
    Calls Try.prog 25 #[.pointer (some ⟨pb, 0, none⟩), .int .i64 n, .slice sp 508 cap] w fun e w' => e = .returned (.int .i64 0) ∧ FW s w0 w' db pb P (putP H n (sealed b)) (c + 1) k Z ∧ Kept (old s Z) w w' := by
  obtain ⟨d, D, F⟩ := h.ex
  have q := D.pwrite pb n sp cap b k h.pag h.z hy (by have := F.pend; omega)
  obtain ⟨e1, F'⟩ := F.pw h0 h1 hb
  rw [e1, hb] at q
  refine q.mono ?_
  rintro e w' ⟨he, D', K'⟩
  exact ⟨he, ⟨⟨_, D', F'⟩, h.pag.kept K' (Or.inr h.z), h.z, h.hs⟩, K'⟩
theorem Fr.rootOk {d : Dk} {P c : Nat} {H : Int → List UInt8} (h : Fr d P H c) (n : Nat) : d.rootOk (n : Int) = rootOk n P := by
  unfold Dk.rootOk
  rw [h.range, ← rootOk_int]
theorem FW.commit (h : FW s w0 w db pb P H c k Z) (n : Nat) (hn : rootOk n P = true) (hP : 3 ≤ P) (hf : k.failed = false) (hg : k.gen < 4611686018427387904) (hc : c < 1000) :
    Calls Try.prog 26 #[.pointer (some ⟨pb, 0, none⟩), .int .i64 (n : Int)] w fun e w' => e = .returned (.int .i64 0) ∧ FW s w0 w' db pb P (putP H (((k.gen + 1) % 2 : Nat) : Int) (headPage (k.gen + 1) n)) 0 ⟨k.gen + 1, n, false⟩ Z ∧ Kept (fun j => old s Z j ∧ j ≠ pb) w w' := by
  obtain ⟨d, D, F⟩ := h.ex
  have q := D.commit pb (n : Int) k h.pag h.z h.hs (by omega) (by rw [F.pages]; exact hP) (by have := F.pend; omega)
  obtain ⟨e1, F'⟩ := F.cm (by omega) (k.gen + 1) n
  have r : d.rootOk (n : Int) = true := by rw [F.rootOk]; exact hn
  unfold Pk.cmErr Pk.cmDk Pk.cm at q
  simp only [hf, r, Int.toNat_natCast, e1, Bool.false_eq_true, Bool.true_eq_false, if_false, if_true] at q
  refine q.mono ?_
  rintro e w' ⟨he, D', P', K'⟩
  exact ⟨he, ⟨⟨_, D', F'⟩, P', h.z, h.hs⟩, K'⟩
theorem FW.commitBad (h : FW s w0 w db pb P H c k Z) (n : Nat) (hn : rootOk n P = false) (hP : 3 ≤ P) (hf : k.failed = false) (hg : k.gen < 4611686018427387904) (hc : c < 1000) :
    Calls Try.prog 26 #[.pointer (some ⟨pb, 0, none⟩), .int .i64 (n : Int)] w fun e w' => e = .returned (.int .i64 2) ∧ FW s w0 w' db pb P H c k Z ∧ Kept (fun j => old s Z j ∧ j ≠ pb) w w' := by
  obtain ⟨d, D, F⟩ := h.ex
  have q := D.commit pb (n : Int) k h.pag h.z h.hs (by omega) (by rw [F.pages]; exact hP) (by have := F.pend; omega)
  have r : d.rootOk (n : Int) = false := by rw [F.rootOk]; exact hn
  unfold Pk.cmErr Pk.cmDk Pk.cm at q
  simp only [hf, r, Bool.false_eq_true, if_false, if_true] at q
  refine q.mono ?_
  rintro e w' ⟨he, D', P', K'⟩
  exact ⟨he, ⟨⟨_, D', F⟩, P', h.z, h.hs⟩, K'⟩
theorem FW.read (h : FW s w0 w db pb P H c k Z) {qb : Nat} {k' : Pk} (Q : Pag w qb db k') {n : Int} (h0 : 2 ≤ n) (h1 : n < P) (hr : right (H n) = true) :
    Calls Try.prog 30 #[.pointer (some ⟨qb, 0, none⟩), .int .i64 n] w fun e w' => Below w.heap.size w w' ∧ ∃ g, w.heap.size ≤ g ∧ e = .returned (.tuple #[.slice (some ⟨g, 0, none⟩) 508 508, .int .i64 0]) ∧ Byts w' (some ⟨g, 0, none⟩) ((H n).take 508) := by
  obtain ⟨d, D, F⟩ := h.ex
  have e1 : d.rdErr n = 0 := by rw [F.rd h0 h1, hr]; rfl
  refine (D.pread qb n k' Q).mono ?_
  rintro e w' ⟨B, _, h2⟩
  have := h2 e1
  rw [F.has] at this
  exact ⟨B, this⟩
theorem FW.readBad (h : FW s w0 w db pb P H c k Z) {qb : Nat} {k' : Pk} (Q : Pag w qb db k') {n : Int} (h0 : 2 ≤ n) (h1 : n < P) (hr : right (H n) = false) :
    Calls Try.prog 30 #[.pointer (some ⟨qb, 0, none⟩), .int .i64 n] w fun e w' => Below w.heap.size w w' ∧ e = .returned (.tuple #[.slice none 0 0, .int .i64 10]) := by
  obtain ⟨d, D, F⟩ := h.ex
  have e1 : d.rdErr n = 10 := by rw [F.rd h0 h1, hr]; rfl
  refine (D.pread qb n k' Q).mono ?_
  rintro e w' ⟨B, h2, _⟩
  rw [e1] at h2
  exact ⟨B, h2 (by decide)⟩
theorem FW.open_ (h : FW s w0 w db pb P H c k Z) {g r : Nat} (hh : Heads H P g r) (hP : 3 ≤ P) (h4 : P ≤ 4096) (hg : g ≤ 4611686018427387904) :
    Calls Try.prog 29 #[.pointer (some ⟨db, 0, none⟩)] w fun e w' => ∃ qb, e = .returned (.tuple #[.pointer (some ⟨qb, 0, none⟩), .int .i64 0]) ∧ Pag w' qb db ⟨g, r, false⟩ ∧ Below w.heap.size w w' ∧ w.heap.size ≤ qb := by
  obtain ⟨d, D, F⟩ := h.ex
  obtain ⟨e1, e2⟩ := F.openErr hP (heads_newest hh h4 hg)
  refine D.open_.mono ?_
  rintro e w' ⟨B, _, h2⟩
  obtain ⟨qb, x, hx, hq, he, hp⟩ := h2 e1
  rw [e2] at hx
  simp only [Option.some.injEq] at hx
  subst hx
  exact ⟨qb, he, hp, B, hq⟩
theorem FW.dread (h : FW s w0 w db pb P H c k Z) {n : Int} (h0 : 0 ≤ n) (h1 : n < P) :
    Calls Try.prog 37 #[.pointer (some ⟨db, 0, none⟩), .int .i64 n] w fun e w' => e = .returned (.tuple #[.slice (some ⟨w.heap.size + 1, 0, none⟩) 512 512, .int .i64 0]) ∧ Pg w' (w.heap.size + 1) (H n) ∧ Below w.heap.size w w' := by
  obtain ⟨d, D, F⟩ := h.ex
  have q := D.read n (F.free.reach h0 (by rw [F.pages]; exact h1))
  rw [F.has] at q
  exact q.mono (fun e w' x => ⟨x.1, x.2.1, x.2.2.1⟩)
theorem FW.dwrite (h : FW s w0 w db pb P H c k Z) {n : Int} (sp : Option Addr) (b : List UInt8) (cap : Nat) (h0 : 0 ≤ n) (h1 : n < P) (hb : b.length = 512) (hy : Byts w sp b) (hn : ∀ g off, sp = some ⟨g, off, none⟩ → g < s ∨ Z g ∨ g ≠ db) (hc : c < 1000) :
    Calls Try.prog 38 #[.pointer (some ⟨db, 0, none⟩), .int .i64 n, .slice sp 512 cap] w fun e w' => e = .returned (.int .i64 0) ∧ FW s w0 w' db pb P (putP H n b) (c + 1) k Z ∧ Kept (old s Z) w w' := by
  obtain ⟨d, D, F⟩ := h.ex
  have q := D.write n sp b cap hy hn (by have := F.pend; omega)
  obtain ⟨e1, F'⟩ := F.wr h0 h1 hb
  rw [e1, hb] at q
  refine q.mono ?_
  rintro e w' ⟨he, D', K'⟩
  exact ⟨he, ⟨⟨_, D', F'⟩, h.pag.kept K' (Or.inr h.z), h.z, h.hs⟩, K'⟩
/-! ### The law's own helpers -/
set_option maxHeartbeats 1000000 in
theorem fresh_any (w : World) (P : Nat) (hP : 3 ≤ P) (h4 : P ≤ 4096) :
    Calls Try.prog 23 #[.int .i64 (P : Int)] w fun e w' => ∃ db pb Z, e = .returned (.tuple #[.pointer (some ⟨db, 0, none⟩), .pointer (some ⟨pb, 0, none⟩)]) ∧ FW w.heap.size w w' db pb P H0 0 ⟨1, 0, false⟩ Z := by
  have C1 := newD (P : Int) w (by omega) (by omega)
  rw [Int.toNat_natCast] at C1
  have HC1 := hid C1
  obtain ⟨e1, F1⟩ := Fr.fmt hP h4
  have C2 : Hid (∀ w1 : World, DW w.heap.size w w1 (w.heap.size + 2) (Dk.fresh P) (fun k => w.heap.size ≤ k ∧ k < w.heap.size) → Calls Try.prog 14 #[.pointer (some ⟨w.heap.size + 2, 0, none⟩)] w1 fun e w' => e = .returned (.int .i64 0) ∧ DW w.heap.size w w' (w.heap.size + 2) (Dk.fresh P).fmt (fun k => w.heap.size ≤ k ∧ k < w.heap.size)) := fun w1 D1 => by
    have := D1.format (show (0 : Nat) < 999990 by decide)
    rw [e1] at this
    exact this.mono (fun e w' x => ⟨x.1, x.2.1⟩)
  obtain ⟨e2, e3⟩ := F1.openErr hP (heads_newest (heads_zero P) h4 (by decide))
  have C3 : Hid (∀ w1 : World, DW w.heap.size w w1 (w.heap.size + 2) (Dk.fresh P).fmt (fun k => w.heap.size ≤ k ∧ k < w.heap.size) → Calls Try.prog 29 #[.pointer (some ⟨w.heap.size + 2, 0, none⟩)] w1 fun e w' => ∃ qb Z, e = .returned (.tuple #[.pointer (some ⟨qb, 0, none⟩), .int .i64 0]) ∧ FW w.heap.size w w' (w.heap.size + 2) qb P H0 0 ⟨1, 0, false⟩ Z) := fun w1 D1 => by
    refine D1.open_.mono ?_
    rintro e w' ⟨B, _, h2⟩
    obtain ⟨qb, x, hx, hq, he, hp⟩ := h2 e2
    rw [e3] at hx
    simp only [Option.some.injEq] at hx
    subst hx
    exact ⟨qb, _, he, ⟨_, D1.add B, F1⟩, hp, Or.inr ⟨hq, Blk.lt hp⟩, by have := D1.size; omega⟩
  clear C1 F1 e1 e2 e3
  go_enter Try.func23, Try.ntmps23
  go_wp2_with (first
    | (go_at_call 11; go_loud (with_reducible refine HC1.out.mono ?_); rintro e w1 ⟨rfl, P1, S1, B1⟩; have HD1 := hid (DW.made (n := 0) P1 B1 (Nat.le_refl _) (Below.refl _ _)); clear P1 S1 B1)
    | (go_at_call 14; go_loud (with_reducible refine (C2.out _ HD1.out).mono ?_); rintro e w2 ⟨rfl, D2⟩; have HD2 := hid D2; clear D2)
    | (go_at_call 29; go_loud (with_reducible refine (C3.out _ HD2.out).mono ?_); rintro e w3 ⟨qb, Z, rfl, D3⟩; have HD3 := hid D3; clear D3)
    | fail)
  go_ret2
  exact ⟨_, _, _, rfl, HD3.out⟩
/-- A load of the law: bytes, and noughts. -/
def loadM (b : List UInt8) : List UInt8 := over (b.take 508) (zeros 508)
theorem loadM_len (b : List UInt8) : (loadM b).length = 508 := by
  unfold loadM
  rw [over_len (by rw [zeros_len, List.length_take]; omega), zeros_len]
theorem Byts.tk {w : World} {p : Option Addr} {l : List UInt8} (h : Byts w p l) (n : Nat) : Byts w p (l.take n) := by
  rcases h with rfl | ⟨g, off, hp, hc⟩
  · left; simp
  · refine Or.inr ⟨g, off, hp, fun i hi => ?_⟩
    rw [List.getElem_take]
    exact hc i (by rw [List.length_take] at hi; omega)
set_option maxHeartbeats 1000000 in
theorem load_any (kind n torn cut : Int) (bp : Option Addr) (b : List UInt8) (bc : Nat) (kv : Value) (w : World) (hb : Byts w bp b) :
    Calls Try.prog 24 #[.agg #[.int .i64 kind, .int .i64 n, .slice bp b.length bc, kv, .int .i64 torn, .int .i64 cut]] w fun e w' => ∃ g, e = .returned (.slice (some ⟨g, 0, none⟩) 508 508) ∧ Blk w' g (bcells (loadM b)) 5 ∧ Below w.heap.size w w' ∧ w.heap.size ≤ g ∧ g < w'.heap.size := by
  have hmk := mk508
  have HX := Blk.new w [.int .i64 kind, .int .i64 n, .slice bp b.length bc, kv, .int .i64 torn, .int .i64 cut] 46
  have x2 := (HX.alloc (.cells (bcells (zeros 508)).toArray 5)).cell 2
  have HG0 := Blk.new (w.alloc (.cells #[.int .i64 kind, .int .i64 n, .slice bp b.length bc, kv, .int .i64 torn, .int .i64 cut] 46)) (bcells (zeros 508)) 5
  rw [show (w.alloc (.cells #[.int .i64 kind, .int .i64 n, .slice bp b.length bc, kv, .int .i64 torn, .int .i64 cut] 46)).heap.size = w.heap.size + 1 by simp] at HG0
  have HG := hid HG0
  have HB1 : Hid (Below w.heap.size w ((w.alloc (.cells #[.int .i64 kind, .int .i64 n, .slice bp b.length bc, kv, .int .i64 torn, .int .i64 cut] 46)).alloc (.cells (bcells (zeros 508)).toArray 5))) := ((Below.refl _ _).alloc (Nat.le_refl _) _).alloc (by simp) _
  have HSZ : Hid (((w.alloc (.cells #[.int .i64 kind, .int .i64 n, .slice bp b.length bc, kv, .int .i64 torn, .int .i64 cut] 46)).alloc (.cells (bcells (zeros 508)).toArray 5)).heap.size = w.heap.size + 2) := by show _ = _; simp
  have HBy := hid ((hb.below HB1.out).tk 508)
  have HN : Hid ((bcells (b.take 508)).length = Nat.min b.length 508) := by show _ = _; rw [bcells_len, List.length_take, Nat.min_comm]
  have HF : Hid (0 + (bcells (b.take 508)).length ≤ (bcells (zeros 508)).length) := by show _ ≤ _; rw [bcells_len, bcells_len, List.length_take, zeros_len]; omega
  clear HX hb HG0
  go_enter Try.func24, Try.ntmps24
  go_wp2_with (first
    | (refine wl_copy rfl _ _ rfl _ _ _ _ _ _ _ rfl rfl (bcells (zeros 508)) 5 ?hb (bcells (b.take 508)) ?hn ?hs ?hf (bcells_one _) ?_; (case hb => exact HG.out); (case hn => exact HN.out); (case hs => exact HBy.out.src); (case hf => exact HF.out); intro w5 B5 C5 S5; rw [splice_over] at B5; have HB5 := hid B5; have HC5 := hid C5; have HS5 := hid S5; clear B5 C5 S5)
    | fail)
  go_ret
  have s1 := HSZ.out
  have s5 := HS5.out
  exact ⟨_, rfl, HB5.out, HB1.out.trans ((HC5.out (· = w.heap.size + 1) rfl).below (B := w.heap.size) (fun j e => by rw [e]; omega) (by omega)), by omega, by omega⟩
end Go.Proofs.Ytnecigbncggogaa
