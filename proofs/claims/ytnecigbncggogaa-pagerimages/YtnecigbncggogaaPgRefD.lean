/- The document's disk beside other blocks; the document's pager in memory; what its has and head answer. Condition: fewer than a million writes are pending. -/
import Derived.Test.YtnecigbncggogaaPgJoinD
import Derived.Test.YtnecigbncggogaaDkRefMend
import Derived.Test.YtnecigbncggogaaPgBase
namespace Go.Proofs.Ytnecigbncggogaa
open Go.RowKit
set_option linter.unusedVariables false
set_option maxRecDepth 20000

/-- The document's disk whose blocks are all new, beside blocks Z that it does not touch. -/
structure RW (s : Nat) (w0 w : World) (rb : Nat) (r : Dk) (Z : Nat → Prop) : Prop where
  bel : Below s w0 w
  size : s ≤ w.heap.size
  lt : ∀ k, Z k → k < w.heap.size
  rd : RD w rb (fun k => s ≤ k ∧ ¬ Z k) r
variable {s : Nat} {w0 w : World} {rb : Nat} {r : Dk} {Z : Nat → Prop}
theorem RW.okk (h : RW s w0 w rb r Z) : r.ok := h.rd.okk
theorem RW.dlt (h : RW s w0 w rb r Z) : rb < w.heap.size := h.rd.lt
theorem RW.ne (h : RW s w0 w rb r Z) {g : Nat} (hg : g < s ∨ Z g) : g ≠ rb := by
  rintro rfl
  have := h.rd.mem
  rcases hg with hg | hg
  · omega
  · exact this.2 hg
theorem RW.next (h : RW s w0 w rb r Z) {w' : World} {r' : Dk} (P : RD w' rb (more (fun k => s ≤ k ∧ ¬ Z k) w w') r') (C : Chg (fun k => s ≤ k ∧ ¬ Z k) w w') : RW s w0 w' rb r' Z ∧ Kept (old s Z) w w' := by
  refine ⟨⟨h.bel.trans (C.below (fun k f => f.1) h.size), Nat.le_trans h.size C.size, fun k hk => Nat.lt_of_lt_of_le (h.lt k hk) C.size, P.mono (fun k _ f => ?_)⟩, C.size, fun k hk => ?_⟩
  · rcases f with f | f
    · exact f
    · exact ⟨Nat.le_trans h.size f.1, fun z => by have := h.lt k z; omega⟩
  · refine C.block k ?_ ?_
    · rcases hk with hk | hk
      · have := h.size; omega
      · exact h.lt k hk
    · rintro ⟨f1, f2⟩
      rcases hk with hk | hk
      · omega
      · exact f2 hk
theorem RW.grow (h : RW s w0 w rb r Z) {w' : World} (B : Below w.heap.size w w') : RW s w0 w' rb r Z :=
  ⟨h.bel.trans (B.mono h.size), Nat.le_trans h.size B.size, fun k hk => Nat.lt_of_lt_of_le (h.lt k hk) B.size, h.rd.below B⟩
theorem RW.add (h : RW s w0 w rb r Z) {w' : World} (B : Below w.heap.size w w') : RW s w0 w' rb r (fun k => Z k ∨ (w.heap.size ≤ k ∧ k < w'.heap.size)) := by
  refine ⟨h.bel.trans (B.mono h.size), Nat.le_trans h.size B.size, fun k hk => ?_, ((h.rd.mono (fun k hk f => ?_)).below B)⟩
  · rcases hk with hk | hk
    · exact Nat.lt_of_lt_of_le (h.lt k hk) B.size
    · exact hk.2
  · refine ⟨f.1, fun z => ?_⟩
    rcases z with z | z
    · exact f.2 z
    · omega
theorem RW.less (h : RW s w0 w rb r Z) {Y : Nat → Prop} (hY : ∀ k, Y k → Z k) : RW s w0 w rb r Y :=
  ⟨h.bel, h.size, fun k hk => h.lt k (hY k hk), h.rd.mono (fun k _ f => ⟨f.1, fun y => f.2 (hY k y)⟩)⟩
theorem RW.turn (h : RW s w0 w rb r Z) {w' : World} {g : Nat} (hz : Z g) (hs : s ≤ g) (C : ∀ F : Nat → Prop, F g → Chg F w w') : RW s w0 w' rb r Z := by
  have c := C (· = g) rfl
  exact ⟨h.bel.trans (c.below (fun k e => by rw [e]; exact hs) h.size), Nat.le_trans h.size c.size, fun k hk => Nat.lt_of_lt_of_le (h.lt k hk) c.size, h.rd.chg c (fun k f e => f.2 (by rw [e]; exact hz))⟩
theorem RW.set (h : RW s w0 w rb r Z) {g i : Nat} (hz : Z g) (hs : s ≤ g) (v : Value) : RW s w0 (w.setCell ⟨g, i, none⟩ v) rb r Z := h.turn hz hs (fun F hF => chg_set w g i v hF)
theorem RW.drew (h : RW s w0 w rb r Z) : RW s w0 w.drew rb r Z := h.grow (Below.refl _ _).drew
theorem RW.kgrow (h : RW s w0 w rb r Z) {w' : World} (B : Below w.heap.size w w') : Kept (old s Z) w w' := Kept.of_below B (fun k hk => by
  rcases hk with hk | hk
  · have := h.size; omega
  · exact h.lt k hk)
theorem RW.pages (h : RW s w0 w rb r Z) : Calls Try.prog 45 #[.pointer (some ⟨rb, 0, none⟩)] w fun e w' => e = .returned (.int .i64 (r.pages : Int)) ∧ w' = w := by
  obtain ⟨lb, pv, rp, R, _⟩ := h.rd
  exact rpages_any rb lb pv rp r w R
theorem RW.read (h : RW s w0 w rb r Z) (n : Int) (hr : r.reach n = 0) (hm : r.pend.length < 1000000) :
    Calls Try.prog 67 #[.pointer (some ⟨rb, 0, none⟩), .int .i64 n] w fun e w' => ∃ g c, e = .returned (.tuple #[.slice (some ⟨g, 0, none⟩) 512 c, .int .i64 0]) ∧ Byts w' (some ⟨g, 0, none⟩) (r.has n) ∧ 512 ≤ c ∧ Below w.heap.size w w' := by
  obtain ⟨lb, pv, rp, R, _⟩ := h.rd
  have hl := R.ok.has n
  refine (rread_ok rb lb pv rp r n w R hr hm).mono ?_
  rintro e w' ⟨v, rfl, O, B⟩
  obtain ⟨g, c, rfl, _, hc, _⟩ := own_is' O (by omega)
  rw [hl] at O hc ⊢
  exact ⟨g, c, rfl, own_bts O, hc, B⟩
theorem RW.readBad (h : RW s w0 w rb r Z) (n : Int) (hr : r.reach n ≠ 0) :
    Calls Try.prog 67 #[.pointer (some ⟨rb, 0, none⟩), .int .i64 n] w fun e w' => e = .returned (.tuple #[.slice none 0 0, .int .i64 (r.reach n)]) ∧ w' = w := by
  obtain ⟨lb, pv, rp, R, _⟩ := h.rd
  exact rread_bad rb lb pv rp r n w R hr
theorem RW.write (h : RW s w0 w rb r Z) (n : Int) (sp : Option Addr) (b : List UInt8) (cap : Nat) (hs : Byts w sp b) (hb : ∀ g off, sp = some ⟨g, off, none⟩ → g < s ∨ Z g ∨ g ≠ rb) (hm : r.pend.length < 1000000) :
    Calls Try.prog 46 #[.pointer (some ⟨rb, 0, none⟩), .int .i64 n, .slice sp b.length cap] w fun e w' => e = .returned (.int .i64 (r.wrErr n b)) ∧ RW s w0 w' rb (r.wr n b) Z ∧ Kept (old s Z) w w' := by
  refine (rwriteD rb _ r n sp b cap w h.rd hs (fun g off e => ?_) hm).mono ?_
  · rcases hb g off e with q | q | q
    · exact h.ne (Or.inl q)
    · exact h.ne (Or.inr q)
    · exact q
  · rintro e w' ⟨he, P, C⟩
    exact ⟨he, h.next P C⟩
theorem RW.sync (h : RW s w0 w rb r Z) (hm : r.pend.length < 1000000) :
    Calls Try.prog 47 #[.pointer (some ⟨rb, 0, none⟩)] w fun e w' => e = .returned (.int .i64 r.syErr) ∧ RW s w0 w' rb r.sy Z ∧ Kept (old s Z) w w' := by
  refine (rsyncD rb _ r w h.rd hm).mono ?_
  rintro e w' ⟨he, P, C⟩
  exact ⟨he, h.next (P.mono (fun k _ f => Or.inl f)) C⟩
/-! ### The document's pager -/
def rgcells (rb : Nat) (k : Pk) : List Value := [.pointer (some ⟨rb, 0, none⟩), .int .i64 (k.root : Int), .int .i64 (k.gen : Int), .bool k.failed]
/-- The document's pager at a block, over the document's disk at another. -/
def Rag (w : World) (qb rb : Nat) (k : Pk) : Prop := Blk w qb (rgcells rb k) 54
theorem Rag.cells {w : World} {qb rb : Nat} {k : Pk} (h : Rag w qb rb k) : w.cell? ⟨qb, 0, none⟩ = some (.pointer (some ⟨rb, 0, none⟩)) ∧ w.cell? ⟨qb, 1, none⟩ = some (.int .i64 (k.root : Int)) ∧ w.cell? ⟨qb, 2, none⟩ = some (.int .i64 (k.gen : Int)) ∧ w.cell? ⟨qb, 3, none⟩ = some (.bool k.failed) ∧ ∀ i, w.frozen? ⟨qb, i, none⟩ = false :=
  ⟨Blk.cell h 0, Blk.cell h 1, Blk.cell h 2, Blk.cell h 3, fun i => Blk.frozen h i⟩
theorem Rag.kept {Z : Nat → Prop} {w w' : World} {qb rb : Nat} {k : Pk} (h : Rag w qb rb k) (K : Kept Z w w') (hz : Z qb) : Rag w' qb rb k := K.blk h hz
theorem Rag.below {w w' : World} {qb rb : Nat} {k : Pk} (h : Rag w qb rb k) (B : Below w.heap.size w w') : Rag w' qb rb k := Blk.below h B (Blk.lt h)
theorem Rag.drew {w : World} {qb rb : Nat} {k : Pk} (h : Rag w qb rb k) : Rag w.drew qb rb k := h
set_option maxHeartbeats 1000000 in
theorem dochas_any (qb : Nat) (n : Int) (k : Pk) (h : RW s w0 w rb r Z) (P : Rag w qb rb k) :
    Calls Try.prog 69 #[.pointer (some ⟨qb, 0, none⟩), .int .i64 n] w fun e w' => e = .returned (.bool (r.rangeErr n)) ∧ w' = w := by
  have C := hid h.pages
  obtain ⟨p0, p1, p2, p3, pf⟩ := P.cells
  clear h P
  unfold Dk.rangeErr
  by_cases h1 : 2 ≤ n
  · by_cases h2 : n < (r.pages : Int)
    · rw [show decide (2 ≤ n ∧ n < (r.pages : Int)) = true by simp [h1, h2]]
      go_enter Try.func69, Try.ntmps69
      go_wp2_with (first
        | (go_at_call 45; go_loud (with_reducible refine C.out.mono ?_); rintro e w3 ⟨rfl, hw⟩; subst w3)
        | fail)
      go_ret
      exact ⟨rfl, rfl⟩
    · rw [show decide (2 ≤ n ∧ n < (r.pages : Int)) = false by simp [h1, h2]]
      go_enter Try.func69, Try.ntmps69
      go_wp2_with (first
        | (go_at_call 45; go_loud (with_reducible refine C.out.mono ?_); rintro e w3 ⟨rfl, hw⟩; subst w3)
        | fail)
      go_ret
      refine ⟨?_, rfl⟩
      show Ending.returned (.bool (decide (n < (r.pages : Int)))) = _
      rw [show decide (n < (r.pages : Int)) = false by simp [h2]]
  · rw [show decide (2 ≤ n ∧ n < (r.pages : Int)) = false by simp [h1]]
    go_enter Try.func69, Try.ntmps69
    go_wp2_with (first
      | (go_at_call 45; go_loud (with_reducible refine C.out.mono ?_); rintro e w3 ⟨rfl, hw⟩; subst w3)
      | fail)
    go_ret
    exact ⟨rfl, rfl⟩
theorem rpage_ex (g c : Nat) (b : List UInt8) (w : World) (hb : b.length = 512) (h : Byts w (some ⟨g, 0, none⟩) b) :
    Calls Try.prog 31 #[.slice (some ⟨g, 0, none⟩) 508 c] w fun e w' => ∃ q cq, e = .returned (.slice (some ⟨q, 0, none⟩) 512 cq) ∧ (convert 22 9 (.slice (some ⟨q, 0, none⟩) 512 cq)).run Try.prog w' = .ok (.string ⟨(sealed (b.take 508)).toArray⟩) w' ∧ Below w.heap.size w w' := by
  have hl : (b.take 508).length = 508 := by rw [List.length_take]; omega
  refine (rpage_any g 0 c (b.take 508) w hl (by simpa using h.cut 0 508)).mono ?_
  rintro e w' ⟨q, cq, he, y, B, _⟩
  have := conv_byts cq y
  rw [sealed_len, hl] at this
  exact ⟨q, cq, he, this, B⟩
/-- What the document's head answers. -/
def docV (b : List UInt8) (n pages : Nat) (v : Value) : Prop := ∃ x y : Int, v = .tuple #[.int .i64 x, .int .i64 y, .bool (readHead b n pages).isSome] ∧ ∀ z, readHead b n pages = some z → x = (z.2 : Int) ∧ y = (z.1 : Int)
theorem wrap_i64 {x : Nat} (h : x < 9223372036854775808) : IntKind.i64.wrap (x : Int) = (x : Int) := by
  have : IntKind.i64.wrap (x : Int) = ((x : Int) + 9223372036854775808) % 18446744073709551616 - 9223372036854775808 := by simp [IntKind.wrap, IntKind.bits, IntKind.signed]; omega
  rw [this]; omega
theorem Byts.tk5 {w : World} {p : Option Addr} {l : List UInt8} (h : Byts w p l) (n : Nat) : Byts w p (l.take n) := by
  rcases h with rfl | ⟨g, off, hp, hc⟩
  · left; simp
  · refine Or.inr ⟨g, off, hp, fun i hi => ?_⟩
    rw [List.getElem_take]
    exact hc i (by rw [List.length_take] at hi; omega)
theorem slot_dec (G n : Nat) : ((G : Int) % 2 == (n : Int)) = decide (G % 2 = n) := by
  rw [Bool.eq_iff_iff]
  simp only [beq_iff_eq, decide_eq_true_eq]
  omega
set_option maxHeartbeats 2000000 in
theorem dochead_wrong (g c : Nat) (b : List UInt8) (n pages : Nat) (w : World) (hb : b.length = 512) (hc : 512 ≤ c) (h : Byts w (some ⟨g, 0, none⟩) b) (hr : right b = false) :
    Calls Try.prog 68 #[.slice (some ⟨g, 0, none⟩) 512 c, .int .i64 (n : Int), .int .i64 (pages : Int)] w fun e w' => e = .returned (.tuple #[.int .i64 0, .int .i64 0, .bool false]) ∧ Below w.heap.size w w' := by
  have CP := hid (rpage_ex g c b w.drew hb h.drew)
  have HCV : Hid (∀ w5 : World, Below w.heap.size w w5 → (convert 22 9 (.slice (some ⟨g, 0, none⟩) 512 c)).run Try.prog w5 = .ok (.string ⟨b.toArray⟩) w5) := fun w5 B5 => by
    have := conv_byts c (h.below B5)
    rwa [hb] at this
  have v0 := HCV.out w.drew (Below.refl _ _).drew
  have hne : (b == sealed (b.take 508)) = false := by
    rw [beq_eq_false_iff_ne]
    intro e
    unfold right at hr
    rw [beq_eq_false_iff_ne] at hr
    exact hr e.symm
  have hne2 : (b != sealed (b.take 508)) = true := by simp [bne, hne]
  clear h hr
  generalize sealed (b.take 508) = X at *
  go_enter Try.func68, Try.ntmps68
  go_wp2
  go_region_held_law (fun w' => (convert 22 9 (.slice (some ⟨g, 0, none⟩) 512 c)).run Try.prog w' = .ok (.string ⟨b.toArray⟩) w') (first | exact v0 | exact HV3.out)
    (first
      | (go_at_call 31; go_loud (with_reducible refine CP.out.mono ?_); rintro e w3 ⟨q, cq, rfl, u3, B3⟩; have HB3 : Hid (Below w.heap.size w w3) := (Below.refl _ _).drew.trans B3; have HV3 := hid (HCV.out w3 HB3.out); clear B3)
      | fail)
  all_goals go_wp2
  go_ret3
  exact ⟨rfl, HB3.out⟩
set_option maxHeartbeats 4000000 in
theorem dochead_no (g c : Nat) (b : List UInt8) (n pages : Nat) (w : World) (hb : b.length = 512) (hc : 512 ≤ c) (hp : pages ≤ 4096) (hn : n < 2) (h : Byts w (some ⟨g, 0, none⟩) b) (hr : right b = true) (hno : ¬ (genOf b ≤ 4611686018427387904 ∧ genOf b % 2 = n ∧ rootOf b ≠ 1 ∧ rootOf b < pages)) :
    Calls Try.prog 68 #[.slice (some ⟨g, 0, none⟩) 512 c, .int .i64 (n : Int), .int .i64 (pages : Int)] w fun e w' => e = .returned (.tuple #[.int .i64 0, .int .i64 0, .bool false]) ∧ Below w.heap.size w w' := by
  have CP := hid (rpage_ex g c b w.drew hb h.drew)
  have HCV : Hid (∀ w5 : World, Below w.heap.size w w5 → (convert 22 9 (.slice (some ⟨g, 0, none⟩) 512 c)).run Try.prog w5 = .ok (.string ⟨b.toArray⟩) w5) := fun w5 B5 => by
    have := conv_byts c (h.below B5)
    rwa [hb] at this
  have v0 := HCV.out w.drew (Below.refl _ _).drew
  have heq : (b == sealed (b.take 508)) = true := by
    unfold right at hr
    rw [beq_iff_eq] at hr ⊢
    exact hr.symm
  have hne2 : (b != sealed (b.take 508)) = false := by simp [bne, heq]
  have CV1 : Hid (∀ w5 : World, Below w.heap.size w w5 → Calls Try.prog 82 #[.slice (some ⟨g, 4, none⟩) 8 (c - 4)] w5 fun e w' => e = .returned (.int .u64 (genOf b : Int)) ∧ w' = w5) := fun w5 B5 => by
    have := rvalue_any g 4 (c - 4) ((b.drop 4).take 8) w5 (by rw [List.length_take]; omega) (by rw [List.length_take, List.length_drop]; omega) (by simpa using (h.below B5).cut 4 8)
    rwa [show ((b.drop 4).take 8).length = 8 by rw [List.length_take, List.length_drop]; omega] at this
  have CV2 : Hid (∀ w5 : World, Below w.heap.size w w5 → Calls Try.prog 82 #[.slice (some ⟨g, 12, none⟩) 4 (c - 12)] w5 fun e w' => e = .returned (.int .u64 (rootOf b : Int)) ∧ w' = w5) := fun w5 B5 => by
    have := rvalue_any g 12 (c - 12) ((b.drop 12).take 4) w5 (by rw [List.length_take]; omega) (by rw [List.length_take, List.length_drop]; omega) (by simpa using (h.below B5).cut 12 4)
    rwa [show ((b.drop 12).take 4).length = 4 by rw [List.length_take, List.length_drop]; omega] at this
  have hg8 := genOf_lt b
  have hr4 := rootOf_lt b
  have hc1 : ¬ (c = 4) := by omega
  have hc2 : ¬ (c = 12) := by omega
  have hc3 : (12 : Int) ≤ (c : Int) := by omega
  have hc4 : (16 : Int) ≤ (c : Int) := by omega
  have hc5 : (508 : Int) ≤ (c : Int) := by omega
  have hc6 : 12 ≤ c := by omega
  have hc7 : 16 ≤ c := by omega
  have hc8 : 508 ≤ c := by omega
  clear h hr
  generalize sealed (b.take 508) = X at *
  generalize genOf b = G at *
  generalize rootOf b = R at *
  clear hg8
  by_cases h1 : 4611686018427387904 < G
  · clear hno
    go_enter Try.func68, Try.ntmps68
    go_wp2
    go_region_held_law (fun w' => (convert 22 9 (.slice (some ⟨g, 0, none⟩) 512 c)).run Try.prog w' = .ok (.string ⟨b.toArray⟩) w') (first | exact v0 | exact HV3.out)
      (first
        | (go_at_call 31; go_loud (with_reducible refine CP.out.mono ?_); rintro e w3 ⟨q, cq, rfl, u3, B3⟩; have HB3 : Hid (Below w.heap.size w w3) := (Below.refl _ _).drew.trans B3; have HV3 := hid (HCV.out w3 HB3.out); have HC1 := hid (CV1.out w3.drew (HB3.out.trans (Below.refl _ _).drew)); have HC2 := hid (CV2.out w3.drew (HB3.out.trans (Below.refl _ _).drew)); clear B3)
        | fail)
    go_wp2
    go_region_held_law (fun _ => True) (trivial)
      (first
        | (go_at_call 82; first | (with_reducible refine HC1.out.mono ?_; rintro e w6 ⟨rfl, hw6⟩; subst hw6) | (with_reducible refine HC2.out.mono ?_; rintro e w6 ⟨rfl, hw6⟩; subst hw6))
        | fail)
    go_wp2
    go_ret3
    exact ⟨rfl, HB3.out.trans (Below.refl _ _).drew⟩
  · by_cases h2 : G % 2 = n
    · have h2i : (G : Int) % 2 = (n : Int) := by omega
      by_cases h3 : R = 1
      · subst h3
        clear hno
        go_enter Try.func68, Try.ntmps68
        go_wp2
        go_region_held_law (fun w' => (convert 22 9 (.slice (some ⟨g, 0, none⟩) 512 c)).run Try.prog w' = .ok (.string ⟨b.toArray⟩) w') (first | exact v0 | exact HV3.out)
          (first
            | (go_at_call 31; go_loud (with_reducible refine CP.out.mono ?_); rintro e w3 ⟨q, cq, rfl, u3, B3⟩; have HB3 : Hid (Below w.heap.size w w3) := (Below.refl _ _).drew.trans B3; have HV3 := hid (HCV.out w3 HB3.out); have HC1 := hid (CV1.out w3.drew (HB3.out.trans (Below.refl _ _).drew)); have HC2 := hid (CV2.out w3.drew (HB3.out.trans (Below.refl _ _).drew)); clear B3)
            | fail)
        go_wp2
        go_region_held_law (fun _ => True) (trivial)
          (first
            | (go_at_call 82; first | (with_reducible refine HC1.out.mono ?_; rintro e w6 ⟨rfl, hw6⟩; subst hw6) | (with_reducible refine HC2.out.mono ?_; rintro e w6 ⟨rfl, hw6⟩; subst hw6))
            | fail)
        go_wp2
        go_ret3
        exact ⟨rfl, HB3.out.trans (Below.refl _ _).drew⟩
      · have h3b : ((R : Int) == 1) = false := by rw [beq_eq_false_iff_ne]; omega
        have h3p : ¬ ((R : Int) = 1) := by omega
        have h4 : pages ≤ R := by omega
        have h4d : decide ((pages : Int) ≤ (R : Int)) = true := by simp; omega
        clear hno
        go_enter Try.func68, Try.ntmps68
        go_wp2
        go_region_held_law (fun w' => (convert 22 9 (.slice (some ⟨g, 0, none⟩) 512 c)).run Try.prog w' = .ok (.string ⟨b.toArray⟩) w') (first | exact v0 | exact HV3.out)
          (first
            | (go_at_call 31; go_loud (with_reducible refine CP.out.mono ?_); rintro e w3 ⟨q, cq, rfl, u3, B3⟩; have HB3 : Hid (Below w.heap.size w w3) := (Below.refl _ _).drew.trans B3; have HV3 := hid (HCV.out w3 HB3.out); have HC1 := hid (CV1.out w3.drew (HB3.out.trans (Below.refl _ _).drew)); have HC2 := hid (CV2.out w3.drew (HB3.out.trans (Below.refl _ _).drew)); clear B3)
            | fail)
        go_wp2
        go_region_held_law (fun _ => True) (trivial)
          (first
            | (go_at_call 82; first | (with_reducible refine HC1.out.mono ?_; rintro e w6 ⟨rfl, hw6⟩; subst hw6) | (with_reducible refine HC2.out.mono ?_; rintro e w6 ⟨rfl, hw6⟩; subst hw6))
            | fail)
        go_wp2
        go_ret3
        exact ⟨rfl, HB3.out.trans (Below.refl _ _).drew⟩
    · have h2p : ¬ ((G : Int) % 2 = (n : Int)) := by omega
      have h2b : ((G : Int) % 2 == (n : Int)) = false := by rw [beq_eq_false_iff_ne]; exact h2p
      clear hno
      go_enter Try.func68, Try.ntmps68
      go_wp2
      go_region_held_law (fun w' => (convert 22 9 (.slice (some ⟨g, 0, none⟩) 512 c)).run Try.prog w' = .ok (.string ⟨b.toArray⟩) w') (first | exact v0 | exact HV3.out)
        (first
          | (go_at_call 31; go_loud (with_reducible refine CP.out.mono ?_); rintro e w3 ⟨q, cq, rfl, u3, B3⟩; have HB3 : Hid (Below w.heap.size w w3) := (Below.refl _ _).drew.trans B3; have HV3 := hid (HCV.out w3 HB3.out); have HC1 := hid (CV1.out w3.drew (HB3.out.trans (Below.refl _ _).drew)); have HC2 := hid (CV2.out w3.drew (HB3.out.trans (Below.refl _ _).drew)); clear B3)
          | fail)
      go_wp2
      go_region_held_law (fun _ => True) (trivial)
        (first
          | (go_at_call 82; first | (with_reducible refine HC1.out.mono ?_; rintro e w6 ⟨rfl, hw6⟩; subst hw6) | (with_reducible refine HC2.out.mono ?_; rintro e w6 ⟨rfl, hw6⟩; subst hw6))
          | fail)
      go_wp2
      go_ret3
      exact ⟨rfl, HB3.out.trans (Below.refl _ _).drew⟩
set_option maxHeartbeats 4000000 in
theorem dochead_yes (g c : Nat) (b : List UInt8) (n pages : Nat) (w : World) (hb : b.length = 512) (hc : 512 ≤ c) (hp : pages ≤ 4096) (hn : n < 2) (h : Byts w (some ⟨g, 0, none⟩) b) (hr : right b = true) (h1 : genOf b ≤ 4611686018427387904) (h2 : genOf b % 2 = n) (h3 : rootOf b ≠ 1) (h4 : rootOf b < pages) :
    Calls Try.prog 68 #[.slice (some ⟨g, 0, none⟩) 512 c, .int .i64 (n : Int), .int .i64 (pages : Int)] w fun e w' => e = .returned (.tuple #[.int .i64 (rootOf b : Int), .int .i64 (genOf b : Int), .bool (b.take 508 == headLoad (genOf b) (rootOf b))]) ∧ Below w.heap.size w w' := by
  have CP := hid (rpage_ex g c b w.drew hb h.drew)
  have HCV : Hid (∀ w5 : World, Below w.heap.size w w5 → (convert 22 9 (.slice (some ⟨g, 0, none⟩) 512 c)).run Try.prog w5 = .ok (.string ⟨b.toArray⟩) w5) := fun w5 B5 => by
    have := conv_byts c (h.below B5)
    rwa [hb] at this
  have v0 := HCV.out w.drew (Below.refl _ _).drew
  have heq : (b == sealed (b.take 508)) = true := by
    unfold right at hr
    rw [beq_iff_eq] at hr ⊢
    exact hr.symm
  have hne2 : (b != sealed (b.take 508)) = false := by simp [bne, heq]
  have CV1 : Hid (∀ w5 : World, Below w.heap.size w w5 → Calls Try.prog 82 #[.slice (some ⟨g, 4, none⟩) 8 (c - 4)] w5 fun e w' => e = .returned (.int .u64 (genOf b : Int)) ∧ w' = w5) := fun w5 B5 => by
    have := rvalue_any g 4 (c - 4) ((b.drop 4).take 8) w5 (by rw [List.length_take]; omega) (by rw [List.length_take, List.length_drop]; omega) (by simpa using (h.below B5).cut 4 8)
    rwa [show ((b.drop 4).take 8).length = 8 by rw [List.length_take, List.length_drop]; omega] at this
  have CV2 : Hid (∀ w5 : World, Below w.heap.size w w5 → Calls Try.prog 82 #[.slice (some ⟨g, 12, none⟩) 4 (c - 12)] w5 fun e w' => e = .returned (.int .u64 (rootOf b : Int)) ∧ w' = w5) := fun w5 B5 => by
    have := rvalue_any g 12 (c - 12) ((b.drop 12).take 4) w5 (by rw [List.length_take]; omega) (by rw [List.length_take, List.length_drop]; omega) (by simpa using (h.below B5).cut 12 4)
    rwa [show ((b.drop 12).take 4).length = 4 by rw [List.length_take, List.length_drop]; omega] at this
  have hg8 := genOf_lt b
  have hr4 := rootOf_lt b
  have hc1 : ¬ (c = 4) := by omega
  have hc2 : ¬ (c = 12) := by omega
  have hc3 : (12 : Int) ≤ (c : Int) := by omega
  have hc4 : (16 : Int) ≤ (c : Int) := by omega
  have hc5 : (508 : Int) ≤ (c : Int) := by omega
  have hc6 : 12 ≤ c := by omega
  have hc7 : 16 ≤ c := by omega
  have hc8 : 508 ≤ c := by omega
  have HCB : Hid (∀ w5 : World, Below w.heap.size w w5 → (convert 22 9 (.slice (some ⟨g, 0, none⟩) 508 c)).run Try.prog w5 = .ok (.string ⟨(b.take 508).toArray⟩) w5) := fun w5 B5 => by
    have := conv_byts c ((h.below B5).tk5 508)
    rwa [show (b.take 508).length = 508 by rw [List.length_take]; omega] at this
  have CHd : Hid (∀ w5 : World, Calls Try.prog 32 #[.int .i64 (genOf b : Int), .int .i64 (rootOf b : Int)] w5 fun e w' => ∃ q cq, e = .returned (.slice (some ⟨q, 0, none⟩) 508 cq) ∧ (convert 22 9 (.slice (some ⟨q, 0, none⟩) 508 cq)).run Try.prog w' = .ok (.string ⟨(headLoad (genOf b) (rootOf b)).toArray⟩) w' ∧ Below w5.heap.size w5 w') := fun w5 => by
    refine (rhead_any (genOf b) (rootOf b) w5 (by omega) (by omega)).mono ?_
    rintro e w' ⟨q, cq, he, y, B, _⟩
    have := conv_byts cq y
    rw [headLoad_len] at this
    exact ⟨q, cq, he, this, B⟩
  clear h hr
  generalize sealed (b.take 508) = X at *
  generalize headLoad (genOf b) (rootOf b) = Y at *
  generalize genOf b = G at *
  generalize rootOf b = R at *
  clear hg8
  have h1i : ¬ (4611686018427387904 < G) := by omega
  have h2i : (G : Int) % 2 = (n : Int) := by omega
  have h3b : ((R : Int) == 1) = false := by rw [beq_eq_false_iff_ne]; omega
  have h3p : ¬ ((R : Int) = 1) := by omega
  have h4p : ¬ ((pages : Int) ≤ (R : Int)) := by omega
  have h4d : decide ((pages : Int) ≤ (R : Int)) = false := by simp; omega
  have hwG : IntKind.i64.wrap (G : Int) = (G : Int) := wrap_i64 (by omega)
  have hwR : IntKind.i64.wrap (R : Int) = (R : Int) := wrap_i64 (by omega)
  go_enter Try.func68, Try.ntmps68
  go_wp2
  go_region_held_law (fun w' => (convert 22 9 (.slice (some ⟨g, 0, none⟩) 512 c)).run Try.prog w' = .ok (.string ⟨b.toArray⟩) w') (first | exact v0 | exact HV3.out)
    (first
      | (go_at_call 31; go_loud (with_reducible refine CP.out.mono ?_); rintro e w3 ⟨q, cq, rfl, u3, B3⟩; have HB3 : Hid (Below w.heap.size w w3) := (Below.refl _ _).drew.trans B3; have HV3 := hid (HCV.out w3 HB3.out); have HC1 := hid (CV1.out w3.drew (HB3.out.trans (Below.refl _ _).drew)); have HC2 := hid (CV2.out w3.drew (HB3.out.trans (Below.refl _ _).drew)); clear B3)
      | fail)
  go_wp2
  go_region_held_law (fun _ => True) (trivial)
    (first
      | (go_at_call 82; first | (with_reducible refine HC1.out.mono ?_; rintro e w6 ⟨rfl, hw6⟩; subst hw6) | (with_reducible refine HC2.out.mono ?_; rintro e w6 ⟨rfl, hw6⟩; subst hw6))
      | fail)
  go_wp2
  have v3 := HCB.out w3.drew.drew ((HB3.out.trans (Below.refl _ _).drew).trans (Below.refl _ _).drew)
  have HHd := hid (CHd.out w3.drew.drew)
  go_region_held_law (fun w' => (convert 22 9 (.slice (some ⟨g, 0, none⟩) 508 c)).run Try.prog w' = .ok (.string ⟨(b.take 508).toArray⟩) w') (first | exact v3 | exact HV7.out)
    (first
      | (go_at_call 32; go_loud (with_reducible refine HHd.out.mono ?_); rintro e w7 ⟨q7, c7, rfl, u7, B7⟩; have HB7 : Hid (Below w.heap.size w w7) := ((HB3.out.trans (Below.refl _ _).drew).trans (Below.refl _ _).drew).trans (B7.mono HB3.out.size); have HV7 := hid (HCB.out w7 HB7.out); clear B7)
      | fail)
  all_goals go_wp2
  go_ret3
  exact ⟨rfl, HB7.out⟩
theorem dochead_any (g c : Nat) (b : List UInt8) (n pages : Nat) (w : World) (hb : b.length = 512) (hc : 512 ≤ c) (h3 : 3 ≤ pages) (hp : pages ≤ 4096) (hn : n < 2) (h : Byts w (some ⟨g, 0, none⟩) b) :
    Calls Try.prog 68 #[.slice (some ⟨g, 0, none⟩) 512 c, .int .i64 (n : Int), .int .i64 (pages : Int)] w fun e w' => (∃ v, e = .returned v ∧ docV b n pages v) ∧ Below w.heap.size w w' := by
  have hi := isHead_doc b n pages
  have none_of : isHead b n pages = false → readHead b n pages = none := fun e => by unfold readHead; rw [e]; rfl
  cases hr : right b
  · refine (dochead_wrong g c b n pages w hb hc h hr).mono ?_
    rintro e w' ⟨he, B⟩
    have e1 := none_of (by rw [hi, hr]; rfl)
    exact ⟨⟨_, he, 0, 0, by rw [e1]; rfl, fun z hz => by rw [e1] at hz; cases hz⟩, B⟩
  · by_cases hq : genOf b ≤ 4611686018427387904 ∧ genOf b % 2 = n ∧ rootOf b ≠ 1 ∧ rootOf b < pages
    · obtain ⟨q1, q2, q3, q4⟩ := hq
      have hro : rootOk (rootOf b) pages = true := by simp only [rootOk, decide_eq_true_eq]; omega
      refine (dochead_yes g c b n pages w hb hc hp hn h hr q1 q2 q3 q4).mono ?_
      rintro e w' ⟨he, B⟩
      refine ⟨⟨_, he, (rootOf b : Int), (genOf b : Int), ?_, fun z hz => ?_⟩, B⟩
      · have e2 : isHead b n pages = (b.take 508 == headLoad (genOf b) (rootOf b)) := by
          rw [hi, hr, hro, show decide (genOf b ≤ 4611686018427387904) = true by simpa using q1, show decide (genOf b % 2 = n) = true by simpa using q2]
          simp
        have e3 : (readHead b n pages).isSome = isHead b n pages := by
          unfold readHead
          cases isHead b n pages <;> rfl
        rw [e3, e2]
      · obtain ⟨_, e1, e2, _⟩ := readHead_some (show readHead b n pages = some (z.1, z.2) from hz)
        exact ⟨by rw [e2], by rw [e1]⟩
    · refine (dochead_no g c b n pages w hb hc hp hn h hr hq).mono ?_
      rintro e w' ⟨he, B⟩
      have e1 := none_of (by
        cases hh : isHead b n pages
        · rfl
        · exfalso
          apply hq
          rw [hi] at hh
          simp only [Bool.and_eq_true, decide_eq_true_eq, rootOk] at hh
          obtain ⟨⟨_, ⟨⟨a1, a2⟩, a3⟩⟩, _⟩ := hh
          exact ⟨a1, a2, by omega, by omega⟩)
      exact ⟨⟨_, he, 0, 0, by rw [e1]; rfl, fun z hz => by rw [e1] at hz; cases hz⟩, B⟩
end Go.Proofs.Ytnecigbncggogaa
