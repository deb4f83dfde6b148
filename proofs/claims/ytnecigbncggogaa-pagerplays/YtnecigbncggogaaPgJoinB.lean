/- Plain mathematics of a pager over a disk with power: what each page has behind each step. No program is named here. No conditions. A pager over a disk with power, beside other blocks: what a law's walk asks; what fresh, load and works do. No conditions. What both.act does where it writes. Condition: fewer than 900000 writes are pending. What both.act does, whatever the act; both.opens with the disks named; what Format leaves. Condition: fewer than 900000 writes are pending, fewer than a thousand acts were done. -/
import Derived.Test.YtnecigbncggogaaDkWorks
import Derived.Test.YtnecigbncggogaaPgHead
import Derived.Test.YtnecigbncggogaaPgRW
import Derived.Lib.SlBytesConst
import Derived.Test.YtnecigbncggogaaPgJoinA
namespace Go.Proofs.Ytnecigbncggogaa
set_option linter.unusedVariables false

theorem settle_full (m : Int) : ∀ (l : List (Int × List UInt8)) (i : Nat) (L : Int → List UInt8), (∀ k, (L k).length = 512) → (∀ x ∈ l, x.2.length = 512) → settleIn (fun _ => 512) l i L m = hasIn m (L m) l
  | [], i, L, hL, hl => rfl
  | x :: r, i, L, hL, hl => by
    have hx := hl x (List.mem_cons_self ..)
    have e : over (x.2.take 512) (L x.1) = x.2 := by
      rw [List.take_of_length_le (by omega), over_all (by rw [hx, hL])]
    show settleIn (fun _ => 512) r (i + 1) (putP L x.1 (over (x.2.take 512) (L x.1))) m = _
    rw [e, settle_full m r (i + 1) _ (fun k => by unfold putP; split <;> first | exact hx | exact hL k) (fun y hy => hl y (List.mem_cons_of_mem _ hy))]
    show hasIn m (if m = x.1 then x.2 else L m) r = hasIn m (if x.1 = m then x.2 else L m) r
    by_cases hm : m = x.1
    · rw [if_pos hm, if_pos hm.symm]
    · rw [if_neg hm, if_neg (fun h => hm h.symm)]
theorem Dk.has_push (d : Dk) (n m : Int) (b : List UInt8) : (d.push n b).has m = putP d.has n b m := by
  show hasIn m (d.last m) (d.pend ++ [(n, b)]) = _
  rw [hasIn_append]
  show (if n = m then b else hasIn m (d.last m) d.pend) = (if m = n then b else _)
  by_cases h : m = n
  · rw [if_pos h, if_pos h.symm]
  · rw [if_neg h, if_neg (fun e => h e.symm)]
    rfl
theorem Dk.has_settled {d : Dk} (h : d.ok) (m : Int) : (d.settled (fun _ => 512)).has m = d.has m := settle_full m d.pend 0 d.last h.last h.pend
/-- A disk with power, of so many pages, with so many pending writes at most: what each page has. -/
structure Fr (d : Dk) (P : Nat) (H : Int → List UInt8) (c : Nat) : Prop where
  free : d.free
  ok : d.ok
  pages : d.pages = P
  has : ∀ m, d.has m = H m
  pend : d.pend.length ≤ c
theorem Fr.wr {d : Dk} {P c : Nat} {H : Int → List UInt8} (h : Fr d P H c) {n : Int} {b : List UInt8} (h0 : 0 ≤ n) (h1 : n < P) (hb : b.length = 512) : d.wrErr n b = 0 ∧ Fr (d.wr n b) P (putP H n b) (c + 1) := by
  obtain ⟨e1, e2⟩ := h.free.wr (b := b) h0 (by rw [h.pages]; exact h1) hb
  refine ⟨e1, ?_⟩
  have hok := h.ok.wr n b
  rw [e2] at hok ⊢
  refine ⟨h.free.push n b, hok, h.pages, fun m => ?_, ?_⟩
  · rw [Dk.has_push]
    unfold putP
    rw [h.has]
  · show (d.pend ++ [(n, b)]).length ≤ _
    have := h.pend
    simp; omega
theorem Fr.sy {d : Dk} {P c : Nat} {H : Int → List UInt8} (h : Fr d P H c) : d.syErr = 0 ∧ Fr d.sy P H 0 := by
  obtain ⟨e1, e2⟩ := h.free.sy
  refine ⟨e1, ?_⟩
  have hok := h.ok.sy
  rw [e2] at hok ⊢
  exact ⟨h.free.settled _, hok, h.pages, fun m => (Dk.has_settled h.ok m).trans (h.has m), Nat.zero_le _⟩
theorem Fr.more {d : Dk} {P c e : Nat} {H : Int → List UInt8} (h : Fr d P H c) (he : c ≤ e) : Fr d P H e := ⟨h.free, h.ok, h.pages, h.has, Nat.le_trans h.pend he⟩
theorem Fr.congr {d : Dk} {P c : Nat} {H G : Int → List UInt8} (h : Fr d P H c) (e : ∀ m, H m = G m) : Fr d P G c := ⟨h.free, h.ok, h.pages, fun m => (h.has m).trans (e m), h.pend⟩
theorem Fr.range {d : Dk} {P c : Nat} {H : Int → List UInt8} (h : Fr d P H c) (n : Int) : d.rangeErr n = decide (2 ≤ n ∧ n < (P : Int)) := by unfold Dk.rangeErr; rw [h.pages]
theorem Fr.pw {d : Dk} {P c : Nat} {H : Int → List UInt8} (h : Fr d P H c) {n : Int} {b : List UInt8} (h0 : 2 ≤ n) (h1 : n < P) (hb : b.length = 508) : d.pwErr n b = 0 ∧ Fr (d.pw n b) P (putP H n (sealed b)) (c + 1) := by
  have hr : d.rangeErr n = true := by rw [h.range]; simp; omega
  have e := h.wr (n := n) (b := sealed b) (by omega) h1 (by rw [sealed_len, hb])
  unfold Dk.pwErr Dk.pw
  simp only [hr, hb, Bool.true_eq_false, ne_eq, not_true_eq_false, if_false]
  exact e
theorem Fr.rd {d : Dk} {P c : Nat} {H : Int → List UInt8} (h : Fr d P H c) {n : Int} (h0 : 2 ≤ n) (h1 : n < P) : d.rdErr n = if right (H n) = false then 10 else 0 := by
  have hr : d.rangeErr n = true := by rw [h.range]; simp; omega
  unfold Dk.rdErr
  simp only [hr, h.free.down, h.has, Bool.true_eq_false, Bool.false_eq_true, if_false]
theorem Fr.cm {d : Dk} {P c : Nat} {H : Int → List UInt8} (h : Fr d P H c) (hP : 2 ≤ P) (g r : Nat) : d.cmErr g r = 0 ∧ Fr (d.cm g r) P (putP H ((g % 2 : Nat) : Int) (headPage g r)) 0 := by
  obtain ⟨e1, f1⟩ := h.sy
  obtain ⟨e2, f2⟩ := f1.wr (n := ((g % 2 : Nat) : Int)) (b := headPage g r) (by omega) (by omega) (headPage_len g r)
  obtain ⟨e3, f3⟩ := f2.sy
  unfold Dk.cmErr Dk.cm
  simp only [e1, e2, ne_eq, not_true_eq_false, if_false]
  exact ⟨e3, f3⟩
def H0 : Int → List UInt8 := putP (putP (fun _ => zero512) 0 (headPage 0 0)) 1 (headPage 1 0)
theorem Fr.fmt {P : Nat} (hP : 3 ≤ P) (h4 : P ≤ 4096) : (Dk.fresh P).fmtErr = 0 ∧ Fr (Dk.fresh P).fmt P H0 0 := by
  have h : Fr (Dk.fresh P) P (fun _ => zero512) 0 := ⟨Dk.fresh_free P, Dk.fresh_ok h4, rfl, fun _ => rfl, Nat.le_refl _⟩
  obtain ⟨e1, f1⟩ := h.wr (n := 0) (b := headPage 0 0) (by omega) (by omega) (headPage_len _ _)
  obtain ⟨e2, f2⟩ := f1.wr (n := 1) (b := headPage 1 0) (by omega) (by omega) (headPage_len _ _)
  obtain ⟨e3, f3⟩ := f2.sy
  have hn : ¬ (Dk.fresh P).pages < 3 := by show ¬ P < 3; omega
  unfold Dk.fmtErr Dk.fmt
  rw [if_neg hn, if_neg hn]
  simp only [e1, e2, ne_eq, not_true_eq_false, if_false]
  exact ⟨e3, f3⟩
theorem Fr.newest {d : Dk} {P c : Nat} {H : Int → List UInt8} (h : Fr d P H c) : d.newestHead = newer (readHead (H 0) 0 P) (readHead (H 1) 1 P) := by
  unfold Dk.newestHead
  rw [h.has, h.has, h.pages]
theorem Fr.openErr {d : Dk} {P c : Nat} {H : Int → List UInt8} (h : Fr d P H c) (hP : 3 ≤ P) {x : Nat × Nat} (hx : newer (readHead (H 0) 0 P) (readHead (H 1) 1 P) = some x) : d.openErr = 0 ∧ d.newestHead = some x := by
  have e := h.newest.trans hx
  unfold Dk.openErr
  rw [if_neg (by rw [h.pages]; omega), h.free.down, if_neg (by decide), e, if_neg (by simp)]
  exact ⟨rfl, rfl⟩
theorem rootOk_zero (P : Nat) : rootOk 0 P = true := by simp [rootOk]
/-- The two heads of a disk: the newest, and the one ahead of it. -/
def Heads (H : Int → List UInt8) (P g r : Nat) : Prop := H ((g % 2 : Nat) : Int) = headPage g r ∧ ∃ r', H (((g + 1) % 2 : Nat) : Int) = headPage (g - 1) r' ∧ rootOk r P = true ∧ rootOk r' P = true ∧ 1 ≤ g
theorem heads_newest {H : Int → List UInt8} {P g r : Nat} (h : Heads H P g r) (hP : P ≤ 4096) (hg : g ≤ 4611686018427387904) : newer (readHead (H 0) 0 P) (readHead (H 1) 1 P) = some (g, r) := by
  obtain ⟨h1, r', h2, k1, k2, hg1⟩ := h
  by_cases hp : g % 2 = 0
  · have hp' : (g + 1) % 2 = 1 := by omega
    rw [hp] at h1
    rw [hp'] at h2
    have e1 : readHead (H 0) 0 P = some (g, r) := by
      rw [show H 0 = headPage g r from h1]
      exact readHead_page hg hp k1 hP
    have e2 : readHead (H 1) 1 P = some (g - 1, r') := by
      rw [show H 1 = headPage (g - 1) r' from h2]
      exact readHead_page (by omega) (by omega) k2 hP
    rw [e1, e2]
    simp only [newer]
    rw [if_neg (by omega)]
  · have hp0 : g % 2 = 1 := by omega
    have hp' : (g + 1) % 2 = 0 := by omega
    rw [hp0] at h1
    rw [hp'] at h2
    have e1 : readHead (H 1) 1 P = some (g, r) := by
      rw [show H 1 = headPage g r from h1]
      exact readHead_page hg hp0 k1 hP
    have e2 : readHead (H 0) 0 P = some (g - 1, r') := by
      rw [show H 0 = headPage (g - 1) r' from h2]
      exact readHead_page (by omega) (by omega) k2 hP
    rw [e1, e2]
    simp only [newer]
    rw [if_pos (by omega)]
theorem heads_zero (P : Nat) : Heads H0 P 1 0 := ⟨rfl, 0, rfl, rootOk_zero P, rootOk_zero P, Nat.le_refl _⟩
theorem heads_next {H : Int → List UInt8} {P g r : Nat} (h : Heads H P g r) {n : Nat} (hn : rootOk n P = true) : Heads (putP H (((g + 1) % 2 : Nat) : Int) (headPage (g + 1) n)) P (g + 1) n := by
  obtain ⟨h1, r', h2, k1, k2, hg1⟩ := h
  refine ⟨?_, r, ?_, hn, k1, by omega⟩
  · unfold putP
    rw [if_pos rfl]
  · have e : (g + 1 + 1) % 2 = g % 2 := by omega
    unfold putP
    rw [e, if_neg (by omega), Nat.add_sub_cancel]
    exact h1
theorem heads_other {H : Int → List UInt8} {P g r : Nat} (h : Heads H P g r) {n : Int} (hn : 2 ≤ n) (b : List UInt8) : Heads (putP H n b) P g r := by
  obtain ⟨h1, r', h2, k⟩ := h
  refine ⟨?_, r', ?_, k⟩
  · unfold putP
    rw [if_neg (by omega)]
    exact h1
  · unfold putP
    rw [if_neg (by omega)]
    exact h2
set_option maxRecDepth 100000 in
theorem zero_not_right : right zero512 = false := by decide +kernel
theorem sealed_take {l : List UInt8} (h : l.length = 508) : (sealed l).take 508 = l := by rw [sealed, List.take_left' h]
/-- A page of which one byte was turned is not right. -/
theorem turned_not_right {l : List UInt8} (h : l.length = 508) (i : Nat) (hi : i < 512) (e : UInt8) (he : (sealed l)[i]? ≠ some e) : right ((sealed l).set i e) = false := by
  have hlen : (sealed l).length = 512 := by rw [sealed_len, h]
  unfold right
  rw [beq_eq_false_iff_ne]
  intro hh
  by_cases h1 : i < 508
  · have e1 : ((sealed l).set i e) = l.set i e ++ le 4 (crc l) := by
      unfold sealed
      rw [List.set_append_left _ _ (by omega)]
    rw [e1, List.take_left' (by rw [List.length_set]; exact h)] at hh
    unfold sealed at hh
    have h2 := List.append_cancel_left hh
    have h3 := le_inj (k := 4) (by have := crc_lt (l.set i e); have e4 : (256 : Nat) ^ 4 = 4294967296 := by decide
                                   omega) (by have := crc_lt l; have e4 : (256 : Nat) ^ 4 = 4294967296 := by decide
                                              omega) h2
    have h4 := crc_set l i (by omega) e h3
    refine he ?_
    unfold sealed
    rw [List.getElem?_append_left (by omega), List.getElem?_eq_getElem (by omega), h4]
  · have e1 : ((sealed l).set i e).take 508 = l := by
      rw [List.take_set, List.set_eq_of_length_le (by rw [List.length_take]; omega)]
      exact sealed_take h
    rw [e1] at hh
    refine he ?_
    have : ((sealed l).set i e)[i]? = some e := by rw [List.getElem?_set_self (by omega)]
    rw [← hh] at this
    exact this
end Go.Proofs.Ytnecigbncggogaa
namespace Go.Proofs.Ytnecigbncggogaa
open Go.RowKit
set_option linter.unusedVariables false
set_option maxRecDepth 20000

/-- A pager at a block over a disk with power, all new, beside protected blocks. -/
structure FW (s : Nat) (w0 w : World) (db pb P : Nat) (H : Int → List UInt8) (c : Nat) (k : Pk) (Z : Nat → Prop) : Prop where
  ex : ∃ d, DW s w0 w db d Z ∧ Fr d P H c
  pag : Pag w pb db k
  z : Z pb
  hs : s ≤ pb
variable {s : Nat} {w0 w : World} {db pb P c : Nat} {H : Int → List UInt8} {k : Pk} {Z : Nat → Prop}
theorem FW.bel (h : FW s w0 w db pb P H c k Z) : Below s w0 w := by obtain ⟨d, D, _⟩ := h.ex; exact D.bel
theorem FW.size (h : FW s w0 w db pb P H c k Z) : s ≤ w.heap.size := by obtain ⟨d, D, _⟩ := h.ex; exact D.size
theorem FW.lt (h : FW s w0 w db pb P H c k Z) : ∀ j, Z j → j < w.heap.size := by obtain ⟨d, D, _⟩ := h.ex; exact D.lt
theorem FW.grow (h : FW s w0 w db pb P H c k Z) {w' : World} (B : Below w.heap.size w w') : FW s w0 w' db pb P H c k Z := by
  obtain ⟨d, D, F⟩ := h.ex
  exact ⟨⟨d, D.grow B, F⟩, h.pag.below B, h.z, h.hs⟩
theorem FW.add (h : FW s w0 w db pb P H c k Z) {w' : World} (B : Below w.heap.size w w') : FW s w0 w' db pb P H c k (fun j => Z j ∨ (w.heap.size ≤ j ∧ j < w'.heap.size)) := by
  obtain ⟨d, D, F⟩ := h.ex
  exact ⟨⟨d, D.add B, F⟩, h.pag.below B, Or.inl h.z, h.hs⟩
theorem FW.kgrow (h : FW s w0 w db pb P H c k Z) {w' : World} (B : Below w.heap.size w w') : Kept (old s Z) w w' := by
  obtain ⟨d, D, F⟩ := h.ex
  exact D.kgrow B
theorem FW.turn (h : FW s w0 w db pb P H c k Z) {w' : World} {g : Nat} (hz : Z g) (hs : s ≤ g) (hn : g ≠ pb) (C : ∀ F : Nat → Prop, F g → Chg F w w') : FW s w0 w' db pb P H c k Z := by
  obtain ⟨d, D, F⟩ := h.ex
  refine ⟨⟨d, D.turn hz hs C, F⟩, ?_, h.z, h.hs⟩
  exact Blk.chg h.pag (C (· = g) rfl) (fun e => hn e.symm)
theorem FW.write (h : FW s w0 w db pb P H c k Z) {n : Int} (sp : Option Addr) (b : List UInt8) (cap : Nat) (h0 : 2 ≤ n) (h1 : n < P) (hb : b.length = 508) (hy : Byts w sp b) (hc : c < 1000) :
    Calls Try.prog 25 #[.pointer (some ⟨pb, 0, none⟩), .int .i64 n, .slice sp 508 cap] w fun e w' => e = .returned (.int .i64 0) ∧ FW s w0 w' db pb P (putP H n (sealed b)) (c + 1) k Z ∧ Kept (old s Z) w w' := by
  obtain ⟨d, D, F⟩ := h.ex
  have q := D.pwrite pb n sp cap b k h.pag h.z hy (by have := F.pend; omega)
  obtain ⟨e1, F'⟩ := F.pw h0 h1 hb
  rw [e1, hb] at q
  refine q.mono ?_
  rintro e w' ⟨he, D', K'⟩
  exact ⟨he, ⟨⟨_, D', F'⟩, h.pag.kept K' (Or.inr h.z), h.z, h.hs⟩, K'⟩
theorem Fr.rootOk {d : Dk} {P c : Nat} {H : Int → List UInt8} (h : Fr d P H c) (n : Nat) : d.rootOk (n : Int) = rootOk n P := by
  unfold Dk.rootOk
  rw [h.range, ← rootOk_int]
theorem FW.commit (h : FW s w0 w db pb P H c k Z) (n : Nat) (hn : rootOk n P = true) (hP : 3 ≤ P) (hf : k.failed = false) (hg : k.gen < 4611686018427387904) (hc : c < 1000) :
    Calls Try.prog 26 #[.pointer (some ⟨pb, 0, none⟩), .int .i64 (n : Int)] w fun e w' => e = .returned (.int .i64 0) ∧ FW s w0 w' db pb P (putP H (((k.gen + 1) % 2 : Nat) : Int) (headPage (k.gen + 1) n)) 0 ⟨k.gen + 1, n, false⟩ Z ∧ Kept (fun j => old s Z j ∧ j ≠ pb) w w' := by
  obtain ⟨d, D, F⟩ := h.ex
  have q := D.commit pb (n : Int) k h.pag h.z h.hs (by omega) (by rw [F.pages]; exact hP) (by have := F.pend; omega)
  obtain ⟨e1, F'⟩ := F.cm (by omega) (k.gen + 1) n
  have r : d.rootOk (n : Int) = true := by rw [F.rootOk]; exact hn
  unfold Pk.cmErr Pk.cmDk Pk.cm at q
  simp only [hf, r, Int.toNat_natCast, e1, Bool.false_eq_true, Bool.true_eq_false, if_false, if_true] at q
  refine q.mono ?_
  rintro e w' ⟨he, D', P', K'⟩
  exact ⟨he, ⟨⟨_, D', F'⟩, P', h.z, h.hs⟩, K'⟩
theorem FW.commitBad (h : FW s w0 w db pb P H c k Z) (n : Nat) (hn : rootOk n P = false) (hP : 3 ≤ P) (hf : k.failed = false) (hg : k.gen < 4611686018427387904) (hc : c < 1000) :
    Calls Try.prog 26 #[.pointer (some ⟨pb, 0, none⟩), .int .i64 (n : Int)] w fun e w' => e = .returned (.int .i64 2) ∧ FW s w0 w' db pb P H c k Z ∧ Kept (fun j => old s Z j ∧ j ≠ pb) w w' := by
  obtain ⟨d, D, F⟩ := h.ex
  have q := D.commit pb (n : Int) k h.pag h.z h.hs (by omega) (by rw [F.pages]; exact hP) (by have := F.pend; omega)
  have r : d.rootOk (n : Int) = false := by rw [F.rootOk]; exact hn
  unfold Pk.cmErr Pk.cmDk Pk.cm at q
  simp only [hf, r, Bool.false_eq_true, if_false, if_true] at q
  refine q.mono ?_
  rintro e w' ⟨he, D', P', K'⟩
  exact ⟨he, ⟨⟨_, D', F⟩, P', h.z, h.hs⟩, K'⟩
theorem FW.read (h : FW s w0 w db pb P H c k Z) {qb : Nat} {k' : Pk} (Q : Pag w qb db k') {n : Int} (h0 : 2 ≤ n) (h1 : n < P) (hr : right (H n) = true) :
    Calls Try.prog 30 #[.pointer (some ⟨qb, 0, none⟩), .int .i64 n] w fun e w' => Below w.heap.size w w' ∧ ∃ g, w.heap.size ≤ g ∧ e = .returned (.tuple #[.slice (some ⟨g, 0, none⟩) 508 508, .int .i64 0]) ∧ Byts w' (some ⟨g, 0, none⟩) ((H n).take 508) := by
  obtain ⟨d, D, F⟩ := h.ex
  have e1 : d.rdErr n = 0 := by rw [F.rd h0 h1, hr]; rfl
  refine (D.pread qb n k' Q).mono ?_
  rintro e w' ⟨B, _, h2⟩
  have := h2 e1
  rw [F.has] at this
  exact ⟨B, this⟩
theorem FW.readBad (h : FW s w0 w db pb P H c k Z) {qb : Nat} {k' : Pk} (Q : Pag w qb db k') {n : Int} (h0 : 2 ≤ n) (h1 : n < P) (hr : right (H n) = false) :
    Calls Try.prog 30 #[.pointer (some ⟨qb, 0, none⟩), .int .i64 n] w fun e w' => Below w.heap.size w w' ∧ e = .returned (.tuple #[.slice none 0 0, .int .i64 10]) := by
  obtain ⟨d, D, F⟩ := h.ex
  have e1 : d.rdErr n = 10 := by rw [F.rd h0 h1, hr]; rfl
  refine (D.pread qb n k' Q).mono ?_
  rintro e w' ⟨B, h2, _⟩
  rw [e1] at h2
  exact ⟨B, h2 (by decide)⟩
theorem FW.open_ (h : FW s w0 w db pb P H c k Z) {g r : Nat} (hh : Heads H P g r) (hP : 3 ≤ P) (h4 : P ≤ 4096) (hg : g ≤ 4611686018427387904) :
    Calls Try.prog 29 #[.pointer (some ⟨db, 0, none⟩)] w fun e w' => ∃ qb, e = .returned (.tuple #[.pointer (some ⟨qb, 0, none⟩), .int .i64 0]) ∧ Pag w' qb db ⟨g, r, false⟩ ∧ Below w.heap.size w w' ∧ w.heap.size ≤ qb := by
  obtain ⟨d, D, F⟩ := h.ex
  obtain ⟨e1, e2⟩ := F.openErr hP (heads_newest hh h4 hg)
  refine D.open_.mono ?_
  rintro e w' ⟨B, _, h2⟩
  obtain ⟨qb, x, hx, hq, he, hp⟩ := h2 e1
  rw [e2] at hx
  simp only [Option.some.injEq] at hx
  subst hx
  exact ⟨qb, he, hp, B, hq⟩
theorem FW.dread (h : FW s w0 w db pb P H c k Z) {n : Int} (h0 : 0 ≤ n) (h1 : n < P) :
    Calls Try.prog 37 #[.pointer (some ⟨db, 0, none⟩), .int .i64 n] w fun e w' => e = .returned (.tuple #[.slice (some ⟨w.heap.size + 1, 0, none⟩) 512 512, .int .i64 0]) ∧ Pg w' (w.heap.size + 1) (H n) ∧ Below w.heap.size w w' := by
  obtain ⟨d, D, F⟩ := h.ex
  have q := D.read n (F.free.reach h0 (by rw [F.pages]; exact h1))
  rw [F.has] at q
  exact q.mono (fun e w' x => ⟨x.1, x.2.1, x.2.2.1⟩)
theorem FW.dwrite (h : FW s w0 w db pb P H c k Z) {n : Int} (sp : Option Addr) (b : List UInt8) (cap : Nat) (h0 : 0 ≤ n) (h1 : n < P) (hb : b.length = 512) (hy : Byts w sp b) (hn : ∀ g off, sp = some ⟨g, off, none⟩ → g < s ∨ Z g ∨ g ≠ db) (hc : c < 1000) :
    Calls Try.prog 38 #[.pointer (some ⟨db, 0, none⟩), .int .i64 n, .slice sp 512 cap] w fun e w' => e = .returned (.int .i64 0) ∧ FW s w0 w' db pb P (putP H n b) (c + 1) k Z ∧ Kept (old s Z) w w' := by
  obtain ⟨d, D, F⟩ := h.ex
  have q := D.write n sp b cap hy hn (by have := F.pend; omega)
  obtain ⟨e1, F'⟩ := F.wr h0 h1 hb
  rw [e1, hb] at q
  refine q.mono ?_
  rintro e w' ⟨he, D', K'⟩
  exact ⟨he, ⟨⟨_, D', F'⟩, h.pag.kept K' (Or.inr h.z), h.z, h.hs⟩, K'⟩
/-! ### The law's own helpers -/
set_option maxHeartbeats 1000000 in
theorem fresh_any (w : World) (P : Nat) (hP : 3 ≤ P) (h4 : P ≤ 4096) :
    Calls Try.prog 23 #[.int .i64 (P : Int)] w fun e w' => ∃ db pb Z, e = .returned (.tuple #[.pointer (some ⟨db, 0, none⟩), .pointer (some ⟨pb, 0, none⟩)]) ∧ FW w.heap.size w w' db pb P H0 0 ⟨1, 0, false⟩ Z := by
  have C1 := newD (P : Int) w (by omega) (by omega)
  rw [Int.toNat_natCast] at C1
  have HC1 := hid C1
  obtain ⟨e1, F1⟩ := Fr.fmt hP h4
  have C2 : Hid (∀ w1 : World, DW w.heap.size w w1 (w.heap.size + 2) (Dk.fresh P) (fun k => w.heap.size ≤ k ∧ k < w.heap.size) → Calls Try.prog 14 #[.pointer (some ⟨w.heap.size + 2, 0, none⟩)] w1 fun e w' => e = .returned (.int .i64 0) ∧ DW w.heap.size w w' (w.heap.size + 2) (Dk.fresh P).fmt (fun k => w.heap.size ≤ k ∧ k < w.heap.size)) := fun w1 D1 => by
    have := D1.format (show (0 : Nat) < 999990 by decide)
    rw [e1] at this
    exact this.mono (fun e w' x => ⟨x.1, x.2.1⟩)
  obtain ⟨e2, e3⟩ := F1.openErr hP (heads_newest (heads_zero P) h4 (by decide))
  have C3 : Hid (∀ w1 : World, DW w.heap.size w w1 (w.heap.size + 2) (Dk.fresh P).fmt (fun k => w.heap.size ≤ k ∧ k < w.heap.size) → Calls Try.prog 29 #[.pointer (some ⟨w.heap.size + 2, 0, none⟩)] w1 fun e w' => ∃ qb Z, e = .returned (.tuple #[.pointer (some ⟨qb, 0, none⟩), .int .i64 0]) ∧ FW w.heap.size w w' (w.heap.size + 2) qb P H0 0 ⟨1, 0, false⟩ Z) := fun w1 D1 => by
    refine D1.open_.mono ?_
    rintro e w' ⟨B, _, h2⟩
    obtain ⟨qb, x, hx, hq, he, hp⟩ := h2 e2
    rw [e3] at hx
    simp only [Option.some.injEq] at hx
    subst hx
    exact ⟨qb, _, he, ⟨_, D1.add B, F1⟩, hp, Or.inr ⟨hq, Blk.lt hp⟩, by have := D1.size; omega⟩
  clear C1 F1 e1 e2 e3
  go_enter Try.func23, Try.ntmps23
  go_wp2_with (first
    | (go_at_call 11; go_loud (with_reducible refine HC1.out.mono ?_); rintro e w1 ⟨rfl, P1, S1, B1⟩; have HD1 := hid (DW.made (n := 0) P1 B1 (Nat.le_refl _) (Below.refl _ _)); clear P1 S1 B1)
    | (go_at_call 14; go_loud (with_reducible refine (C2.out _ HD1.out).mono ?_); rintro e w2 ⟨rfl, D2⟩; have HD2 := hid D2; clear D2)
    | (go_at_call 29; go_loud (with_reducible refine (C3.out _ HD2.out).mono ?_); rintro e w3 ⟨qb, Z, rfl, D3⟩; have HD3 := hid D3; clear D3)
    | fail)
  go_ret2
  exact ⟨_, _, _, rfl, HD3.out⟩
/-- A load of the law: bytes, and noughts. -/
def loadM (b : List UInt8) : List UInt8 := over (b.take 508) (zeros 508)
theorem loadM_len (b : List UInt8) : (loadM b).length = 508 := by
  unfold loadM
  rw [over_len (by rw [zeros_len, List.length_take]; omega), zeros_len]
theorem Byts.tk {w : World} {p : Option Addr} {l : List UInt8} (h : Byts w p l) (n : Nat) : Byts w p (l.take n) := by
  rcases h with rfl | ⟨g, off, hp, hc⟩
  · left; simp
  · refine Or.inr ⟨g, off, hp, fun i hi => ?_⟩
    rw [List.getElem_take]
    exact hc i (by rw [List.length_take] at hi; omega)
set_option maxHeartbeats 1000000 in
theorem load_any (kind n torn cut : Int) (bp : Option Addr) (b : List UInt8) (bc : Nat) (kv : Value) (w : World) (hb : Byts w bp b) :
    Calls Try.prog 24 #[.agg #[.int .i64 kind, .int .i64 n, .slice bp b.length bc, kv, .int .i64 torn, .int .i64 cut]] w fun e w' => ∃ g, e = .returned (.slice (some ⟨g, 0, none⟩) 508 508) ∧ Blk w' g (bcells (loadM b)) 5 ∧ Below w.heap.size w w' ∧ w.heap.size ≤ g ∧ g < w'.heap.size := by
  have hmk := mk508
  have HX := Blk.new w [.int .i64 kind, .int .i64 n, .slice bp b.length bc, kv, .int .i64 torn, .int .i64 cut] 46
  have x2 := (HX.alloc (.cells (bcells (zeros 508)).toArray 5)).cell 2
  have HG0 := Blk.new (w.alloc (.cells #[.int .i64 kind, .int .i64 n, .slice bp b.length bc, kv, .int .i64 torn, .int .i64 cut] 46)) (bcells (zeros 508)) 5
  rw [show (w.alloc (.cells #[.int .i64 kind, .int .i64 n, .slice bp b.length bc, kv, .int .i64 torn, .int .i64 cut] 46)).heap.size = w.heap.size + 1 by simp] at HG0
  have HG := hid HG0
  have HB1 : Hid (Below w.heap.size w ((w.alloc (.cells #[.int .i64 kind, .int .i64 n, .slice bp b.length bc, kv, .int .i64 torn, .int .i64 cut] 46)).alloc (.cells (bcells (zeros 508)).toArray 5))) := ((Below.refl _ _).alloc (Nat.le_refl _) _).alloc (by simp) _
  have HSZ : Hid (((w.alloc (.cells #[.int .i64 kind, .int .i64 n, .slice bp b.length bc, kv, .int .i64 torn, .int .i64 cut] 46)).alloc (.cells (bcells (zeros 508)).toArray 5)).heap.size = w.heap.size + 2) := by show _ = _; simp
  have HBy := hid ((hb.below HB1.out).tk 508)
  have HN : Hid ((bcells (b.take 508)).length = Nat.min b.length 508) := by show _ = _; rw [bcells_len, List.length_take, Nat.min_comm]
  have HF : Hid (0 + (bcells (b.take 508)).length ≤ (bcells (zeros 508)).length) := by show _ ≤ _; rw [bcells_len, bcells_len, List.length_take, zeros_len]; omega
  clear HX hb HG0
  go_enter Try.func24, Try.ntmps24
  go_wp2_with (first
    | (refine wl_copy rfl _ _ rfl _ _ _ _ _ _ _ rfl rfl (bcells (zeros 508)) 5 ?hb (bcells (b.take 508)) ?hn ?hs ?hf (bcells_one _) ?_; (case hb => exact HG.out); (case hn => exact HN.out); (case hs => exact HBy.out.src); (case hf => exact HF.out); intro w5 B5 C5 S5; rw [splice_over] at B5; have HB5 := hid B5; have HC5 := hid C5; have HS5 := hid S5; clear B5 C5 S5)
    | fail)
  go_ret
  have s1 := HSZ.out
  have s5 := HS5.out
  exact ⟨_, rfl, HB5.out, HB1.out.trans ((HC5.out (· = w.heap.size + 1) rfl).below (B := w.heap.size) (fun j e => by rw [e]; omega) (by omega)), by omega, by omega⟩
end Go.Proofs.Ytnecigbncggogaa
namespace Go.Proofs.Ytnecigbncggogaa
open Go.RowKit
set_option linter.unusedVariables false
set_option maxRecDepth 20000
variable {s : Nat} {w0 w : World} {db rb : Nat} {d r : Dk} {Z : Nat → Prop}

theorem byts_kept {Y : Nat → Prop} {w w' : World} {g off : Nat} {l : List UInt8} (K : Kept Y w w') (hz : Y g) (h : Byts w (some ⟨g, off, none⟩) l) : Byts w' (some ⟨g, off, none⟩) l := h.same (fun b o e => by
  simp only [Option.some.injEq, Addr.mk.injEq, and_true] at e
  rw [← e.1]
  exact K.2 g hz)
theorem u8_more (b : UInt8) : ∃ x : UInt8, IntKind.u8.wrap ((b.toNat : Int) + 1) = (x.toNat : Int) ∧ ((b.toNat : Int) + 1) % 256 = (x.toNat : Int) := by
  have e : IntKind.u8.wrap ((b.toNat : Int) + 1) = ((b.toNat : Int) + 1) % 256 := by simp [IntKind.wrap, IntKind.bits, IntKind.signed]
  have : (UInt8.ofNat ((b.toNat + 1) % 256)).toNat = (b.toNat + 1) % 256 := by simp
  exact ⟨UInt8.ofNat ((b.toNat + 1) % 256), by rw [e, this]; omega, by rw [this]; omega⟩
set_option maxHeartbeats 8000000 in
theorem act_write0 (xb c : Nat) (h : BW s w0 w xb d c) (hm : d.pend.length < 900000) (n torn cut : Int) (bp kp : Option Addr) (b : List UInt8) (bc kl kc : Nat) (hcut : ¬ cut = 77) (hbi : Byts w bp b) :
    Calls Try.prog 16 #[.pointer (some ⟨xb, 0, none⟩), .agg #[.int .i64 1, .int .i64 n, .slice bp b.length bc, .slice kp kl kc, .int .i64 torn, .int .i64 cut]] w (actEnd s w0 xb d c) := by
  obtain ⟨db, rb, pv, qv, o, Z, T, X, ⟨hz, hs⟩, W, O, ⟨oz, os, on⟩, np, nq⟩ := h.boxed [.int .i64 1, .int .i64 n, .slice bp b.length bc, .slice kp kl kc, .int .i64 torn, .int .i64 cut] 46
  have hcb : (cut == 77) = false := by simpa using hcut
  have o0 := O.cell 0
  have o1 := O.cell 1
  have o2 := O.cell 2
  have o3 := O.cell 3
  have o4 := O.cell 4
  have o5 := O.cell 5
  have HT := hid T
  have HX := hid X
  have HO := hid O
  have HZ := hid hz
  have HS := hid hs
  have HW := hid W
  have HOZ := hid oz
  unfold xcells at *
  unfold actEnd
  cases o with
  | none =>
    obtain ⟨rfl, rfl⟩ := W
    have x3 := X.cell 3
    clear h T X O hz hs oz os on np nq hm
    go_enter Try.func16, Try.ntmps16
    go_wp2
    go_ret
    exact ⟨rfl, d, ⟨_, _, _, _, none, _, HT.out, HX.out, HZ.out, HS.out, HW.out⟩, rfl, Nat.le_add_right _ _⟩
  | some k =>
    have HFar : Hid (∀ g, (w.alloc (.cells #[.int .i64 1, .int .i64 n, .slice bp b.length bc, .slice kp kl kc, .int .i64 torn, .int .i64 cut] 46)).heap.size ≤ g → ∀ b, (pv = .pointer (some ⟨b, 0, none⟩) ∨ qv = .pointer (some ⟨b, 0, none⟩)) → b ≠ g) := fun g hg b hb => by
      obtain ⟨pb, qb, rfl, rfl, P, Q, _⟩ := W
      have p1 := P.lt
      have p2 := Q.lt
      simp only [Value.pointer.injEq, Option.some.injEq, Addr.mk.injEq, and_true] at hb
      omega
    obtain ⟨pb, qb, rfl, rfl, P, Q, ⟨pz, ps, pn⟩, ⟨qz, qs, qn⟩, hpq, hg, hp3⟩ := W
    have x3 := X.cell 3
    have hm5 : d.pend.length < 1000000 := by omega
    have HL := hid (load_any 1 n torn cut bp b bc (.slice kp kl kc) (w.alloc (.cells #[.int .i64 1, .int .i64 n, .slice bp b.length bc, .slice kp kl kc, .int .i64 torn, .int .i64 cut] 46)) (hbi.alloc _))
    have hln : ((loadM b).drop 0).length = 508 := by rw [List.length_drop, loadM_len]
    have HLn := hid hln
    have HPZ := hid pz
    have HP := hid P
    have HQ := hid Q
    have HQZ := hid qz
    have C1 : Hid (∀ (w5 : World) (Y : Nat → Prop) (sp : Option Addr) (cc : Nat), T2 s w0 w5 db rb d d Y → Pag w5 pb db k → Y pb → Byts w5 sp ((loadM b).drop 0) → Calls Try.prog 25 #[.pointer (some ⟨pb, 0, none⟩), .int .i64 n, .slice sp 508 cc] w5 fun e w' => e = .returned (.int .i64 (d.pwErr n ((loadM b).drop 0))) ∧ T2 s w0 w' db rb (d.pw n ((loadM b).drop 0)) d Y ∧ Kept (old s Y) w5 w') := fun w5 Y sp cc t5 p5 z5 y5 => by
      have := t5.pwriteL pb n sp cc ((loadM b).drop 0) k p5 z5 y5 hm5
      rwa [hln] at this
    have C2 : Hid (∀ (w5 : World) (Y : Nat → Prop) (sp : Option Addr) (cc : Nat), T2 s w0 w5 db rb (d.pw n ((loadM b).drop 0)) d Y → Rag w5 qb rb k → Y qb → Byts w5 sp ((loadM b).drop 0) → Calls Try.prog 51 #[.pointer (some ⟨qb, 0, none⟩), .int .i64 n, .slice sp 508 cc] w5 fun e w' => e = .returned (.int .i64 (d.pwErr n ((loadM b).drop 0))) ∧ T2 s w0 w' db rb (d.pw n ((loadM b).drop 0)) (d.pw n ((loadM b).drop 0)) Y ∧ Kept (old s Y) w5 w') := fun w5 Y sp cc t5 p5 z5 y5 => by
      have := t5.pwriteR qb n sp cc ((loadM b).drop 0) k p5 z5 y5 hm5
      rwa [hln] at this
    have HR : Hid ((d.pw n ((loadM b).drop 0)).pages = d.pages ∧ (d.pw n ((loadM b).drop 0)).pend.length ≤ d.pend.length + 1) := by
      have h1 := d.pend_wr n (sealed ((loadM b).drop 0))
      unfold Dk.pw
      split
      · exact ⟨rfl, by omega⟩
      · split
        · exact ⟨rfl, by omega⟩
        · exact ⟨Dk.wr_pages _ _ _, h1⟩
    have HCV : Hid (∀ (w5 : World) (sp : Option Addr) (cc : Nat), Byts w5 sp ((loadM b).drop 0) → (convert 22 9 (.slice sp 508 cc)).run Try.prog w5 = .ok (.string ⟨((loadM b).drop 0).toArray⟩) w5) := fun w5 sp cc y => by
      have := conv_byts cc y
      rwa [hln] at this
    have HBd : Hid (∀ (w5 : World) (g : Nat), Blk w5 g (bcells (loadM b)) 5 → Byts w5 (some ⟨g, 0, none⟩) ((loadM b).drop 0)) := fun w5 g b5 => by
      have := b5.byts'.cut 0 508
      rw [List.take_of_length_le (by rw [hln]; exact Nat.le_refl _)] at this
      simpa using this
    have HLm := hid (loadM_len b)
    have HSz := hid T.size
    clear h T X O hz hs oz os on np nq hm hm5 hg hp3 P Q pz ps pn qz qs qn hpq hbi hln hcut
    generalize d.pwErr n ((loadM b).drop 0) = E at *
    generalize d.pw n ((loadM b).drop 0) = D at *
    generalize (loadM b).drop 0 = bb at *
    generalize loadM b = lm at *
    have HLb : Hid (0 < bb.length ∧ bb.length ≤ 508) := ⟨by rw [HLn.out]; decide, by rw [HLn.out]; decide⟩
    go_enter Try.func16, Try.ntmps16
    go_wp2_with (first
      | (go_at_call 24; go_loud (with_reducible refine HL.out.mono ?_); rintro e w3 ⟨g, rfl, G3, B3, L3, M3⟩; have HG3 := hid G3; have HL3 := hid L3; have HM3 := hid M3; have HT3 := hid (HT.out.add B3); have HX3 := hid (HX.out.below B3 HX.out.lt); have HO3 := hid (HO.out.below B3 HO.out.lt); have HP3 := hid (HP.out.below B3); have HQ3 := hid (HQ.out.below B3); have HW3 := hid (HW.out.add B3); have y5 := HO3.out.cell 5; have HY3 := hid ((HBd.out w3 g G3).alloc (.cells #[] 5)); have HOw := hid (own_new w3); have HA3 : Hid (Below w3.heap.size w3 (w3.alloc (.cells #[] 5))) := (Below.refl _ _).alloc (Nat.le_refl _) _; clear G3 B3 L3 M3)
      | (at_builtin; go_loud (refine appBlk w3.heap.size _ _ _ [] bb rfl rfl rfl _ _ _ _ rfl ?hn ?hO ?hX ?hm ?hl ?hb ?_; (case hn => exact HLn.out.symm); (case hO => exact HOw.out); (case hX => exact HY3.out); (case hm => exact HLb.out.1); (case hl => have := HLb.out.2; simp; omega); (case hb => simp); intro v' w4 O' G' A'; have HG' := hid G'; have O2 : OwnB w4 w3.heap.size v' bb := O'; obtain ⟨gq, cq, hv', hgq, hcq, _⟩ := own_is' O2 HLb.out.1; rw [HLn.out] at hv'; subst hv'; have HY4 := hid (own_bts O2); have HGq := hid hgq; clear hgq; clear O' O2 G' A' hcq; try go_frame))
      | fail)
    have HB4 : Hid (Below w3.heap.size w3 w4) := below_own HA3.out HG'.out (by simp) (fun k hk => (World.ownsRow.lt HOw.out k hk).1)
    have HT4 := hid (HT3.out.add HB4.out)
    have HX4 := hid (HX3.out.below HB4.out HX3.out.lt)
    have HO4 := hid (HO3.out.below HB4.out HO3.out.lt)
    have HW4 := hid (HW3.out.add HB4.out)
    have HG4 := hid (HG3.out.below HB4.out HG3.out.lt)
    have HP4 := hid ((HP3.out.below HB4.out).drew)
    have HQ4 := hid ((HQ3.out.below HB4.out).drew)
    have HTd := hid (HT4.out.grow (Below.refl _ _).drew)
    have HXd := hid (HX4.out.drew)
    have HOd := hid (HO4.out.drew)
    have HGd := hid (HG4.out.drew)
    have HWd := hid (Two.kept (w' := w4.drew) HW4.out ⟨Nat.le_refl _, fun _ _ => rfl⟩)
    have HYb := hid (HBd.out w4.drew g HGd.out)
    have HYq := hid (HY4.out.drew)
    have HGql : Hid (gq < w4.heap.size) := byts_lt HY4.out HLb.out.1
    have zx : Hid ((Z xb ∨ ((w.alloc (.cells #[.int .i64 1, .int .i64 n, .slice bp b.length bc, .slice kp kl kc, .int .i64 torn, .int .i64 cut] 46)).heap.size ≤ xb ∧ xb < w3.heap.size)) ∨ (w3.heap.size ≤ xb ∧ xb < w4.heap.size)) := Or.inl (Or.inl HZ.out)
    have zo : Hid ((Z w.heap.size ∨ ((w.alloc (.cells #[.int .i64 1, .int .i64 n, .slice bp b.length bc, .slice kp kl kc, .int .i64 torn, .int .i64 cut] 46)).heap.size ≤ w.heap.size ∧ w.heap.size < w3.heap.size)) ∨ (w3.heap.size ≤ w.heap.size ∧ w.heap.size < w4.heap.size)) := Or.inl (Or.inl HOZ.out)
    have zp : Hid ((Z pb ∨ ((w.alloc (.cells #[.int .i64 1, .int .i64 n, .slice bp b.length bc, .slice kp kl kc, .int .i64 torn, .int .i64 cut] 46)).heap.size ≤ pb ∧ pb < w3.heap.size)) ∨ (w3.heap.size ≤ pb ∧ pb < w4.heap.size)) := Or.inl (Or.inl HPZ.out)
    have zq : Hid ((Z qb ∨ ((w.alloc (.cells #[.int .i64 1, .int .i64 n, .slice bp b.length bc, .slice kp kl kc, .int .i64 torn, .int .i64 cut] 46)).heap.size ≤ qb ∧ qb < w3.heap.size)) ∨ (w3.heap.size ≤ qb ∧ qb < w4.heap.size)) := Or.inl (Or.inl HQZ.out)
    have zg : Hid ((Z g ∨ ((w.alloc (.cells #[.int .i64 1, .int .i64 n, .slice bp b.length bc, .slice kp kl kc, .int .i64 torn, .int .i64 cut] 46)).heap.size ≤ g ∧ g < w3.heap.size)) ∨ (w3.heap.size ≤ g ∧ g < w4.heap.size)) := Or.inl (Or.inr ⟨HL3.out, HM3.out⟩)
    have zc : Hid ((Z gq ∨ ((w.alloc (.cells #[.int .i64 1, .int .i64 n, .slice bp b.length bc, .slice kp kl kc, .int .i64 torn, .int .i64 cut] 46)).heap.size ≤ gq ∧ gq < w3.heap.size)) ∨ (w3.heap.size ≤ gq ∧ gq < w4.heap.size)) := Or.inr ⟨HGq.out, HGql.out⟩
    have HSg : Hid (s ≤ g) := Nat.le_trans HSz.out HL3.out
    have HNx : Hid (xb ≠ g) := by have := HX.out.lt; have := HL3.out; show xb ≠ g; omega
    have u1 := HX4.out.cell 1
    have u3 := HX4.out.cell 3
    have q1 := HO4.out.cell 1
    clear HT3 HX3 HO3 HW3 HG3 HY3 HOw HA3 HG' HB4 HT4 HG4 HY4 HP3 HQ3 HGql y5
    go_region_held_law (fun w' => w'.cell? ⟨xb, 1, none⟩ = some (.pointer (some ⟨pb, 0, none⟩)) ∧ w'.cell? ⟨xb, 3, none⟩ = some (.pointer (some ⟨qb, 0, none⟩)) ∧ w'.cell? ⟨w.heap.size, 1, none⟩ = some (.int .i64 n)) (first | exact ⟨u1, u3, q1⟩ | exact ⟨HX5.out.cell 1, HX5.out.cell 3, HO5.out.cell 1⟩ | exact ⟨HX6.out.cell 1, HX6.out.cell 3, HO6.out.cell 1⟩)
      (first
        | (go_at_call 25; go_loud (with_reducible refine (C1.out _ _ (some ⟨g, 0, none⟩) _ HTd.out HP4.out zp.out HYb.out).mono ?_); rintro e w5 ⟨rfl, T5, K5⟩; have HT5 := hid T5; have HX5 := hid (K5.blk HXd.out (Or.inr zx.out)); have HO5 := hid (K5.blk HOd.out (Or.inr zo.out)); have HG5 := hid (K5.blk HGd.out (Or.inr zg.out)); have HQ5 := hid (HQ4.out.kept K5 (Or.inr zq.out)); have HYq5 := hid (byts_kept K5 (Or.inr zc.out) HYq.out); have HW5 := hid (HWd.out.kept K5); clear T5 K5)
        | (go_at_call 51; go_loud (with_reducible refine (C2.out _ _ (some ⟨gq, 0, none⟩) _ HT5.out HQ5.out zq.out HYq5.out).mono ?_); rintro e w6 ⟨rfl, T6, K6⟩; have HT6 := hid T6; have HX6 := hid (K6.blk HX5.out (Or.inr zx.out)); have HO6 := hid (K6.blk HO5.out (Or.inr zo.out)); have HG6 := hid (K6.blk HG5.out (Or.inr zg.out)); have HW6 := hid (HW5.out.kept K6); have v1 := HCV.out w6 (some ⟨g, 0, none⟩) 508 (HBd.out w6 g HG6.out); have v2 := HCV.out w6 (some ⟨gq, 0, none⟩) cq (byts_kept K6 (Or.inr zc.out) HYq5.out); clear T6 K6)
        | fail)
    all_goals (
      clear v1 v2
      go_wp2
      clear HTd HXd HOd HGd HWd HYb HYq HT5 HX5 HO5 HG5 HW5 u1 u3 q1
      go_loopw [8] (fun i wr => ∃ (j : Nat) (l' : List UInt8), j ≤ 508 ∧ i = .int .i64 (j : Int) ∧ l'.length = 508 ∧ Blk wr g (bcells l') 5 ∧ T2 s w0 wr db rb D D (fun j => (Z j ∨ ((w.alloc (.cells #[.int .i64 1, .int .i64 n, .slice bp b.length bc, .slice kp kl kc, .int .i64 torn, .int .i64 cut] 46)).heap.size ≤ j ∧ j < w3.heap.size)) ∨ (w3.heap.size ≤ j ∧ j < w4.heap.size)) ∧ Blk wr xb [.pointer (some ⟨db, 0, none⟩), .pointer (some ⟨pb, 0, none⟩), .pointer (some ⟨rb, 0, none⟩), .pointer (some ⟨qb, 0, none⟩)] 39 ∧ Two s (fun j => (Z j ∨ ((w.alloc (.cells #[.int .i64 1, .int .i64 n, .slice bp b.length bc, .slice kp kl kc, .int .i64 torn, .int .i64 cut] 46)).heap.size ≤ j ∧ j < w3.heap.size)) ∨ (w3.heap.size ≤ j ∧ j < w4.heap.size)) wr db rb xb d c (some k) (.pointer (some ⟨pb, 0, none⟩)) (.pointer (some ⟨qb, 0, none⟩))) (fun i _ => 508 - (RowKit.intOf i).toNat)
      case atStart => exact ⟨0, lm, Nat.zero_le _, rfl, HLm.out, HG6.out, HT6.out, HX6.out, HW6.out⟩
      case round =>
        clear HT6 HX6 HO6 HG6 HW6
        obtain ⟨j, l', hj, rfl, hl', hG, hT, hX, hW⟩ := hrel
        have HGr := hid hG
        have HTr := hid hT
        have HXr := hid hX
        have HWr := hid hW
        have gf := hG.frozen (0 + j)
        clear hG hT hX hW
        by_cases hx : j < 508
        · have hx' : (j : Int) < 508 := by omega
          have hin : 0 + j < l'.length := by omega
          have gc : wr.cell? ⟨g, 0 + j, none⟩ = some (.int .u8 ((l'[0 + j].toNat : Nat) : Int)) := (HGr.out.cell _).trans (bcells_at hin)
          obtain ⟨x', hu, hu2⟩ := u8_more l'[0 + j]
          have HL'' : Hid ((l'.set (0 + j) x').length = 508) := by show _ = _; rw [List.length_set]; exact hl'
          generalize l'[0 + j] = xo at *
          rw [Nat.zero_add] at gc gf
          go_wp2
          go_roundw
          case rel =>
            refine ⟨j + 1, l'.set (0 + j) x', hx, by go_num, HL''.out, ?_, HTr.out.set zg.out HSg.out _, HXr.out.far HNx.out _, HWr.out.far (HFar.out g HL3.out) _⟩
            have q := HGr.out.set (i := 0 + j) (.int .u8 ((x'.toNat : Nat) : Int))
            rw [bcells_set] at q
            simpa using q
          case measure => simp [RowKit.intOf]; omega
        · obtain rfl : j = 508 := by omega
          go_wp2
          go_ret
          exact ⟨rfl, D, ⟨_, _, _, _, some k, _, HTr.out, HXr.out, zx.out, HS.out, HWr.out.more (Nat.le_succ _) HR.out.1⟩, HR.out.1, by have := HR.out.2; omega⟩)
set_option maxHeartbeats 8000000 in
theorem act_write1 (xb c : Nat) (h : BW s w0 w xb d c) (hm : d.pend.length < 900000) (n torn : Int) (bp kp : Option Addr) (b : List UInt8) (bc kl kc : Nat) (hbi : Byts w bp b) :
    Calls Try.prog 16 #[.pointer (some ⟨xb, 0, none⟩), .agg #[.int .i64 1, .int .i64 n, .slice bp b.length bc, .slice kp kl kc, .int .i64 torn, .int .i64 77]] w (actEnd s w0 xb d c) := by
  obtain ⟨db, rb, pv, qv, o, Z, T, X, ⟨hz, hs⟩, W, O, ⟨oz, os, on⟩, np, nq⟩ := h.boxed [.int .i64 1, .int .i64 n, .slice bp b.length bc, .slice kp kl kc, .int .i64 torn, .int .i64 77] 46
  
  have o0 := O.cell 0
  have o1 := O.cell 1
  have o2 := O.cell 2
  have o3 := O.cell 3
  have o4 := O.cell 4
  have o5 := O.cell 5
  have HT := hid T
  have HX := hid X
  have HO := hid O
  have HZ := hid hz
  have HS := hid hs
  have HW := hid W
  have HOZ := hid oz
  unfold xcells at *
  unfold actEnd
  cases o with
  | none =>
    obtain ⟨rfl, rfl⟩ := W
    have x3 := X.cell 3
    clear h T X O hz hs oz os on np nq hm
    go_enter Try.func16, Try.ntmps16
    go_wp2
    go_ret
    exact ⟨rfl, d, ⟨_, _, _, _, none, _, HT.out, HX.out, HZ.out, HS.out, HW.out⟩, rfl, Nat.le_add_right _ _⟩
  | some k =>
    have HFar : Hid (∀ g, (w.alloc (.cells #[.int .i64 1, .int .i64 n, .slice bp b.length bc, .slice kp kl kc, .int .i64 torn, .int .i64 77] 46)).heap.size ≤ g → ∀ b, (pv = .pointer (some ⟨b, 0, none⟩) ∨ qv = .pointer (some ⟨b, 0, none⟩)) → b ≠ g) := fun g hg b hb => by
      obtain ⟨pb, qb, rfl, rfl, P, Q, _⟩ := W
      have p1 := P.lt
      have p2 := Q.lt
      simp only [Value.pointer.injEq, Option.some.injEq, Addr.mk.injEq, and_true] at hb
      omega
    obtain ⟨pb, qb, rfl, rfl, P, Q, ⟨pz, ps, pn⟩, ⟨qz, qs, qn⟩, hpq, hg, hp3⟩ := W
    have x3 := X.cell 3
    have hm5 : d.pend.length < 1000000 := by omega
    have HL := hid (load_any 1 n torn 77 bp b bc (.slice kp kl kc) (w.alloc (.cells #[.int .i64 1, .int .i64 n, .slice bp b.length bc, .slice kp kl kc, .int .i64 torn, .int .i64 77] 46)) (hbi.alloc _))
    have hln : ((loadM b).drop 1).length = 507 := by rw [List.length_drop, loadM_len]
    have HLn := hid hln
    have HPZ := hid pz
    have HP := hid P
    have HQ := hid Q
    have HQZ := hid qz
    have C1 : Hid (∀ (w5 : World) (Y : Nat → Prop) (sp : Option Addr) (cc : Nat), T2 s w0 w5 db rb d d Y → Pag w5 pb db k → Y pb → Byts w5 sp ((loadM b).drop 1) → Calls Try.prog 25 #[.pointer (some ⟨pb, 0, none⟩), .int .i64 n, .slice sp 507 cc] w5 fun e w' => e = .returned (.int .i64 (d.pwErr n ((loadM b).drop 1))) ∧ T2 s w0 w' db rb (d.pw n ((loadM b).drop 1)) d Y ∧ Kept (old s Y) w5 w') := fun w5 Y sp cc t5 p5 z5 y5 => by
      have := t5.pwriteL pb n sp cc ((loadM b).drop 1) k p5 z5 y5 hm5
      rwa [hln] at this
    have C2 : Hid (∀ (w5 : World) (Y : Nat → Prop) (sp : Option Addr) (cc : Nat), T2 s w0 w5 db rb (d.pw n ((loadM b).drop 1)) d Y → Rag w5 qb rb k → Y qb → Byts w5 sp ((loadM b).drop 1) → Calls Try.prog 51 #[.pointer (some ⟨qb, 0, none⟩), .int .i64 n, .slice sp 507 cc] w5 fun e w' => e = .returned (.int .i64 (d.pwErr n ((loadM b).drop 1))) ∧ T2 s w0 w' db rb (d.pw n ((loadM b).drop 1)) (d.pw n ((loadM b).drop 1)) Y ∧ Kept (old s Y) w5 w') := fun w5 Y sp cc t5 p5 z5 y5 => by
      have := t5.pwriteR qb n sp cc ((loadM b).drop 1) k p5 z5 y5 hm5
      rwa [hln] at this
    have HR : Hid ((d.pw n ((loadM b).drop 1)).pages = d.pages ∧ (d.pw n ((loadM b).drop 1)).pend.length ≤ d.pend.length + 1) := by
      have h1 := d.pend_wr n (sealed ((loadM b).drop 1))
      unfold Dk.pw
      split
      · exact ⟨rfl, by omega⟩
      · split
        · exact ⟨rfl, by omega⟩
        · exact ⟨Dk.wr_pages _ _ _, h1⟩
    have HCV : Hid (∀ (w5 : World) (sp : Option Addr) (cc : Nat), Byts w5 sp ((loadM b).drop 1) → (convert 22 9 (.slice sp 507 cc)).run Try.prog w5 = .ok (.string ⟨((loadM b).drop 1).toArray⟩) w5) := fun w5 sp cc y => by
      have := conv_byts cc y
      rwa [hln] at this
    have HBd : Hid (∀ (w5 : World) (g : Nat), Blk w5 g (bcells (loadM b)) 5 → Byts w5 (some ⟨g, 1, none⟩) ((loadM b).drop 1)) := fun w5 g b5 => by
      have := b5.byts'.cut 1 507
      rw [List.take_of_length_le (by rw [hln]; exact Nat.le_refl _)] at this
      simpa using this
    have HLm := hid (loadM_len b)
    have HSz := hid T.size
    clear h T X O hz hs oz os on np nq hm hm5 hg hp3 P Q pz ps pn qz qs qn hpq hbi hln
    generalize d.pwErr n ((loadM b).drop 1) = E at *
    generalize d.pw n ((loadM b).drop 1) = D at *
    generalize (loadM b).drop 1 = bb at *
    generalize loadM b = lm at *
    have HLb : Hid (0 < bb.length ∧ bb.length ≤ 508) := ⟨by rw [HLn.out]; decide, by rw [HLn.out]; decide⟩
    go_enter Try.func16, Try.ntmps16
    go_wp2_with (first
      | (go_at_call 24; go_loud (with_reducible refine HL.out.mono ?_); rintro e w3 ⟨g, rfl, G3, B3, L3, M3⟩; have HG3 := hid G3; have HL3 := hid L3; have HM3 := hid M3; have HT3 := hid (HT.out.add B3); have HX3 := hid (HX.out.below B3 HX.out.lt); have HO3 := hid (HO.out.below B3 HO.out.lt); have HP3 := hid (HP.out.below B3); have HQ3 := hid (HQ.out.below B3); have HW3 := hid (HW.out.add B3); have y5 := HO3.out.cell 5; have HY3 := hid ((HBd.out w3 g G3).alloc (.cells #[] 5)); have HOw := hid (own_new w3); have HA3 : Hid (Below w3.heap.size w3 (w3.alloc (.cells #[] 5))) := (Below.refl _ _).alloc (Nat.le_refl _) _; clear G3 B3 L3 M3)
      | (at_builtin; go_loud (refine appBlk w3.heap.size _ _ _ [] bb rfl rfl rfl _ _ _ _ rfl ?hn ?hO ?hX ?hm ?hl ?hb ?_; (case hn => exact HLn.out.symm); (case hO => exact HOw.out); (case hX => exact HY3.out); (case hm => exact HLb.out.1); (case hl => have := HLb.out.2; simp; omega); (case hb => simp); intro v' w4 O' G' A'; have HG' := hid G'; have O2 : OwnB w4 w3.heap.size v' bb := O'; obtain ⟨gq, cq, hv', hgq, hcq, _⟩ := own_is' O2 HLb.out.1; rw [HLn.out] at hv'; subst hv'; have HY4 := hid (own_bts O2); have HGq := hid hgq; clear hgq; clear O' O2 G' A' hcq; try go_frame))
      | fail)
    have HB4 : Hid (Below w3.heap.size w3 w4) := below_own HA3.out HG'.out (by simp) (fun k hk => (World.ownsRow.lt HOw.out k hk).1)
    have HT4 := hid (HT3.out.add HB4.out)
    have HX4 := hid (HX3.out.below HB4.out HX3.out.lt)
    have HO4 := hid (HO3.out.below HB4.out HO3.out.lt)
    have HW4 := hid (HW3.out.add HB4.out)
    have HG4 := hid (HG3.out.below HB4.out HG3.out.lt)
    have HP4 := hid ((HP3.out.below HB4.out).drew)
    have HQ4 := hid ((HQ3.out.below HB4.out).drew)
    have HTd := hid (HT4.out.grow (Below.refl _ _).drew)
    have HXd := hid (HX4.out.drew)
    have HOd := hid (HO4.out.drew)
    have HGd := hid (HG4.out.drew)
    have HWd := hid (Two.kept (w' := w4.drew) HW4.out ⟨Nat.le_refl _, fun _ _ => rfl⟩)
    have HYb := hid (HBd.out w4.drew g HGd.out)
    have HYq := hid (HY4.out.drew)
    have HGql : Hid (gq < w4.heap.size) := byts_lt HY4.out HLb.out.1
    have zx : Hid ((Z xb ∨ ((w.alloc (.cells #[.int .i64 1, .int .i64 n, .slice bp b.length bc, .slice kp kl kc, .int .i64 torn, .int .i64 77] 46)).heap.size ≤ xb ∧ xb < w3.heap.size)) ∨ (w3.heap.size ≤ xb ∧ xb < w4.heap.size)) := Or.inl (Or.inl HZ.out)
    have zo : Hid ((Z w.heap.size ∨ ((w.alloc (.cells #[.int .i64 1, .int .i64 n, .slice bp b.length bc, .slice kp kl kc, .int .i64 torn, .int .i64 77] 46)).heap.size ≤ w.heap.size ∧ w.heap.size < w3.heap.size)) ∨ (w3.heap.size ≤ w.heap.size ∧ w.heap.size < w4.heap.size)) := Or.inl (Or.inl HOZ.out)
    have zp : Hid ((Z pb ∨ ((w.alloc (.cells #[.int .i64 1, .int .i64 n, .slice bp b.length bc, .slice kp kl kc, .int .i64 torn, .int .i64 77] 46)).heap.size ≤ pb ∧ pb < w3.heap.size)) ∨ (w3.heap.size ≤ pb ∧ pb < w4.heap.size)) := Or.inl (Or.inl HPZ.out)
    have zq : Hid ((Z qb ∨ ((w.alloc (.cells #[.int .i64 1, .int .i64 n, .slice bp b.length bc, .slice kp kl kc, .int .i64 torn, .int .i64 77] 46)).heap.size ≤ qb ∧ qb < w3.heap.size)) ∨ (w3.heap.size ≤ qb ∧ qb < w4.heap.size)) := Or.inl (Or.inl HQZ.out)
    have zg : Hid ((Z g ∨ ((w.alloc (.cells #[.int .i64 1, .int .i64 n, .slice bp b.length bc, .slice kp kl kc, .int .i64 torn, .int .i64 77] 46)).heap.size ≤ g ∧ g < w3.heap.size)) ∨ (w3.heap.size ≤ g ∧ g < w4.heap.size)) := Or.inl (Or.inr ⟨HL3.out, HM3.out⟩)
    have zc : Hid ((Z gq ∨ ((w.alloc (.cells #[.int .i64 1, .int .i64 n, .slice bp b.length bc, .slice kp kl kc, .int .i64 torn, .int .i64 77] 46)).heap.size ≤ gq ∧ gq < w3.heap.size)) ∨ (w3.heap.size ≤ gq ∧ gq < w4.heap.size)) := Or.inr ⟨HGq.out, HGql.out⟩
    have HSg : Hid (s ≤ g) := Nat.le_trans HSz.out HL3.out
    have HNx : Hid (xb ≠ g) := by have := HX.out.lt; have := HL3.out; show xb ≠ g; omega
    have u1 := HX4.out.cell 1
    have u3 := HX4.out.cell 3
    have q1 := HO4.out.cell 1
    clear HT3 HX3 HO3 HW3 HG3 HY3 HOw HA3 HG' HB4 HT4 HG4 HY4 HP3 HQ3 HGql y5
    go_region_held_law (fun w' => w'.cell? ⟨xb, 1, none⟩ = some (.pointer (some ⟨pb, 0, none⟩)) ∧ w'.cell? ⟨xb, 3, none⟩ = some (.pointer (some ⟨qb, 0, none⟩)) ∧ w'.cell? ⟨w.heap.size, 1, none⟩ = some (.int .i64 n)) (first | exact ⟨u1, u3, q1⟩ | exact ⟨HX5.out.cell 1, HX5.out.cell 3, HO5.out.cell 1⟩ | exact ⟨HX6.out.cell 1, HX6.out.cell 3, HO6.out.cell 1⟩)
      (first
        | (go_at_call 25; go_loud (with_reducible refine (C1.out _ _ (some ⟨g, 1, none⟩) _ HTd.out HP4.out zp.out HYb.out).mono ?_); rintro e w5 ⟨rfl, T5, K5⟩; have HT5 := hid T5; have HX5 := hid (K5.blk HXd.out (Or.inr zx.out)); have HO5 := hid (K5.blk HOd.out (Or.inr zo.out)); have HG5 := hid (K5.blk HGd.out (Or.inr zg.out)); have HQ5 := hid (HQ4.out.kept K5 (Or.inr zq.out)); have HYq5 := hid (byts_kept K5 (Or.inr zc.out) HYq.out); have HW5 := hid (HWd.out.kept K5); clear T5 K5)
        | (go_at_call 51; go_loud (with_reducible refine (C2.out _ _ (some ⟨gq, 0, none⟩) _ HT5.out HQ5.out zq.out HYq5.out).mono ?_); rintro e w6 ⟨rfl, T6, K6⟩; have HT6 := hid T6; have HX6 := hid (K6.blk HX5.out (Or.inr zx.out)); have HO6 := hid (K6.blk HO5.out (Or.inr zo.out)); have HG6 := hid (K6.blk HG5.out (Or.inr zg.out)); have HW6 := hid (HW5.out.kept K6); have v1 := HCV.out w6 (some ⟨g, 1, none⟩) 507 (HBd.out w6 g HG6.out); have v2 := HCV.out w6 (some ⟨gq, 0, none⟩) cq (byts_kept K6 (Or.inr zc.out) HYq5.out); clear T6 K6)
        | fail)
    all_goals (
      clear v1 v2
      go_wp2
      clear HTd HXd HOd HGd HWd HYb HYq HT5 HX5 HO5 HG5 HW5 u1 u3 q1
      go_loopw [8] (fun i wr => ∃ (j : Nat) (l' : List UInt8), j ≤ 507 ∧ i = .int .i64 (j : Int) ∧ l'.length = 508 ∧ Blk wr g (bcells l') 5 ∧ T2 s w0 wr db rb D D (fun j => (Z j ∨ ((w.alloc (.cells #[.int .i64 1, .int .i64 n, .slice bp b.length bc, .slice kp kl kc, .int .i64 torn, .int .i64 77] 46)).heap.size ≤ j ∧ j < w3.heap.size)) ∨ (w3.heap.size ≤ j ∧ j < w4.heap.size)) ∧ Blk wr xb [.pointer (some ⟨db, 0, none⟩), .pointer (some ⟨pb, 0, none⟩), .pointer (some ⟨rb, 0, none⟩), .pointer (some ⟨qb, 0, none⟩)] 39 ∧ Two s (fun j => (Z j ∨ ((w.alloc (.cells #[.int .i64 1, .int .i64 n, .slice bp b.length bc, .slice kp kl kc, .int .i64 torn, .int .i64 77] 46)).heap.size ≤ j ∧ j < w3.heap.size)) ∨ (w3.heap.size ≤ j ∧ j < w4.heap.size)) wr db rb xb d c (some k) (.pointer (some ⟨pb, 0, none⟩)) (.pointer (some ⟨qb, 0, none⟩))) (fun i _ => 507 - (RowKit.intOf i).toNat)
      case atStart => exact ⟨0, lm, Nat.zero_le _, rfl, HLm.out, HG6.out, HT6.out, HX6.out, HW6.out⟩
      case round =>
        clear HT6 HX6 HO6 HG6 HW6
        obtain ⟨j, l', hj, rfl, hl', hG, hT, hX, hW⟩ := hrel
        have HGr := hid hG
        have HTr := hid hT
        have HXr := hid hX
        have HWr := hid hW
        have gf := hG.frozen (1 + j)
        clear hG hT hX hW
        by_cases hx : j < 507
        · have hx' : (j : Int) < 507 := by omega
          have hin : 1 + j < l'.length := by omega
          have gc : wr.cell? ⟨g, 1 + j, none⟩ = some (.int .u8 ((l'[1 + j].toNat : Nat) : Int)) := (HGr.out.cell _).trans (bcells_at hin)
          obtain ⟨x', hu, hu2⟩ := u8_more l'[1 + j]
          have HL'' : Hid ((l'.set (1 + j) x').length = 508) := by show _ = _; rw [List.length_set]; exact hl'
          generalize l'[1 + j] = xo at *
          
          go_wp2
          go_roundw
          case rel =>
            refine ⟨j + 1, l'.set (1 + j) x', hx, by go_num, HL''.out, ?_, HTr.out.set zg.out HSg.out _, HXr.out.far HNx.out _, HWr.out.far (HFar.out g HL3.out) _⟩
            have q := HGr.out.set (i := 1 + j) (.int .u8 ((x'.toNat : Nat) : Int))
            rw [bcells_set] at q
            exact q
          case measure => simp [RowKit.intOf]; omega
        · obtain rfl : j = 507 := by omega
          go_wp2
          go_ret
          exact ⟨rfl, D, ⟨_, _, _, _, some k, _, HTr.out, HXr.out, zx.out, HS.out, HWr.out.more (Nat.le_succ _) HR.out.1⟩, HR.out.1, by have := HR.out.2; omega⟩)
end Go.Proofs.Ytnecigbncggogaa
namespace Go.Proofs.Ytnecigbncggogaa
open Go.RowKit
set_option linter.unusedVariables false
set_option maxRecDepth 20000
variable {s : Nat} {w0 w : World} {db rb : Nat} {d r : Dk} {Z : Nat → Prop}

/-- Both sides in memory, over these two disks. -/
def BX (s : Nat) (w0 w : World) (xb db rb : Nat) (d : Dk) (c : Nat) : Prop :=
  ∃ pv qv o Z, T2 s w0 w db rb d d Z ∧ Blk w xb (xcells db rb pv qv) 39 ∧ Z xb ∧ s ≤ xb ∧ Two s Z w db rb xb d c o pv qv
theorem BX.bw {xb c : Nat} (h : BX s w0 w xb db rb d c) : BW s w0 w xb d c := ⟨db, rb, h⟩
theorem BW.bx {xb c : Nat} (h : BW s w0 w xb d c) : ∃ db rb, BX s w0 w xb db rb d c := h
theorem Dk.fmt_rest (d : Dk) : d.fmt.pages = d.pages ∧ d.fmt.pend.length ≤ d.pend.length + 2 := by
  unfold Dk.fmt
  have h1 := d.pend_wr 0 (headPage 0 0)
  have h2 := (d.wr 0 (headPage 0 0)).pend_wr 1 (headPage 1 0)
  have h3 := ((d.wr 0 (headPage 0 0)).wr 1 (headPage 1 0)).pend_sy
  split
  · exact ⟨rfl, by omega⟩
  · split
    · exact ⟨Dk.wr_pages _ _ _, by omega⟩
    · split
      · exact ⟨by rw [Dk.wr_pages, Dk.wr_pages], by omega⟩
      · exact ⟨by rw [Dk.sy_pages, Dk.wr_pages, Dk.wr_pages], by omega⟩
set_option maxHeartbeats 4000000 in
theorem opens_full (xb : Nat) (pv qv : Value) (h : T2 s w0 w db rb d d Z) (X : Blk w xb (xcells db rb pv qv) 39) (hz : Z xb) (hs : s ≤ xb) (hm : d.pend.length < 1000000) :
    Calls Try.prog 13 #[.pointer (some ⟨xb, 0, none⟩)] w fun e w' => e = .returned (.bool true) ∧ BX s w0 w' xb db rb d 0 := by
  have HH := hid h
  have HX := hid X
  have HZ := hid hz
  have HS := hid hs
  have HXl := hid (h.lt xb hz)
  have x0 := X.cell 0
  have hM := hid hm
  have HN1 : Hid (xb < w.heap.size) := h.lt xb hz
  by_cases ho : d.openErr = 0
  · obtain ⟨x, hxn⟩ := newest_there ho
    have C1 := h.openL
    have HC1 : Hid (Calls Try.prog 29 #[.pointer (some ⟨db, 0, none⟩)] w fun e w' => ∃ pb, e = .returned (.tuple #[.pointer (some ⟨pb, 0, none⟩), .int .i64 0]) ∧ Pag w' pb db ⟨x.1, x.2, false⟩ ∧ Below w.heap.size w w' ∧ w.heap.size ≤ pb) := by
      refine C1.mono ?_
      rintro e w' ⟨B, _, h2⟩
      obtain ⟨pb, y, hy, hle, he, P⟩ := h2 ho
      rw [hxn] at hy
      cases hy
      exact ⟨pb, he, P, B, hle⟩
    have HC2 : Hid (∀ (w5 : World) (Y : Nat → Prop), T2 s w0 w5 db rb d d Y → Calls Try.prog 35 #[.pointer (some ⟨rb, 0, none⟩)] w5 fun e w' => ∃ qb, e = .returned (.tuple #[.pointer (some ⟨qb, 0, none⟩), .int .i64 0]) ∧ Rag w' qb rb ⟨x.1, x.2, false⟩ ∧ Below w5.heap.size w5 w' ∧ w5.heap.size ≤ qb) := fun w5 Y h5 => by
      refine (h5.openR hM.out).mono ?_
      rintro e w' ⟨B, _, h2⟩
      obtain ⟨qb, y, hy, hle, he, P⟩ := h2 ho
      rw [hxn] at hy
      cases hy
      exact ⟨qb, he, P, B, hle⟩
    have HGn := hid (newest_gen hxn)
    have HPg := hid (open_pages ho)
    obtain ⟨gx, rx⟩ := x
    clear C1 h X hz hs hm ho hxn
    unfold xcells at *
    go_enter Try.func13, Try.ntmps13
    go_wp2_with (first
      | (go_at_call 29; go_loud (with_reducible refine HC1.out.mono ?_); rintro e w3 ⟨pb, rfl, P3, B3, L3⟩; have HP3 := hid P3; have HB3 := hid B3; have HL3 := hid L3; have HT3 := hid (HH.out.add B3); have HX3 := hid (HX.out.below B3 HX.out.lt); have x30 := HX3.out.cell 2; clear P3 B3 L3)
      | (go_at_call 35; go_loud (with_reducible refine (HC2.out _ _ HT3.out).mono ?_); rintro e w4 ⟨qb, rfl, Q4, B4, L4⟩; have HQ4 := hid Q4; have HL4 := hid L4; have HT4 := hid (HT3.out.add B4); have HP4 := hid (HP3.out.below B4); have HX4 := hid (HX3.out.below B4 HX3.out.lt); have x41 := HX4.out.cell 1; have x43 := HX4.out.cell 3; have x4f := fun i => HX4.out.frozen i; clear Q4 B4)
      | fail)
    go_ret
    have l3 : w.heap.size ≤ pb := HL3.out
    have l4 : w3.heap.size ≤ qb := HL4.out
    have p3 : pb < w3.heap.size := HP3.out.lt
    have q4 : qb < w4.heap.size := HQ4.out.lt
    have n1 : xb < w.heap.size := HN1.out
    have s1 : w.heap.size ≤ w3.heap.size := HB3.out.size
    have sw : s ≤ w.heap.size := HH.out.size
    refine ⟨rfl, _, _, some ⟨gx, rx, false⟩, _, (HT4.out.set (g := xb) (Or.inl (Or.inl HZ.out)) HS.out _).set (g := xb) (Or.inl (Or.inl HZ.out)) HS.out _, Blk.set (i := 3) (Blk.set (i := 1) HX4.out _) _, Or.inl (Or.inl HZ.out), HS.out, ?_⟩
    exact ⟨pb, qb, rfl, rfl, (HP4.out.far (by omega) _).far (by omega) _, (HQ4.out.far (by omega) _).far (by omega) _, ⟨Or.inl (Or.inr ⟨l3, p3⟩), by omega, by omega⟩, ⟨Or.inr ⟨l4, q4⟩, by omega, by omega⟩, by omega, HGn.out, HPg.out⟩
  · have HC1 : Hid (Calls Try.prog 29 #[.pointer (some ⟨db, 0, none⟩)] w fun e w' => e = .returned (.tuple #[.pointer none, .int .i64 d.openErr]) ∧ Below w.heap.size w w') := by
      refine h.openL.mono ?_
      rintro e w' ⟨B, h2, _⟩
      exact ⟨h2 ho, B⟩
    have HC2 : Hid (∀ (w5 : World) (Y : Nat → Prop), T2 s w0 w5 db rb d d Y → Calls Try.prog 35 #[.pointer (some ⟨rb, 0, none⟩)] w5 fun e w' => e = .returned (.tuple #[.pointer none, .int .i64 d.openErr]) ∧ Below w5.heap.size w5 w') := fun w5 Y h5 => by
      refine (h5.openR hM.out).mono ?_
      rintro e w' ⟨B, h2, _⟩
      exact ⟨h2 ho, B⟩
    clear h X hz hs hm ho
    generalize d.openErr = er at *
    unfold xcells at *
    go_enter Try.func13, Try.ntmps13
    go_wp2_with (first
      | (go_at_call 29; go_loud (with_reducible refine HC1.out.mono ?_); rintro e w3 ⟨rfl, B3⟩; have HT3 := hid (HH.out.grow B3); have HX3 := hid (HX.out.below B3 HX.out.lt); have x30 := HX3.out.cell 2; clear B3)
      | (go_at_call 35; go_loud (with_reducible refine (HC2.out _ _ HT3.out).mono ?_); rintro e w4 ⟨rfl, B4⟩; have HT4 := hid (HT3.out.grow B4); have HX4 := hid (HX3.out.below B4 HX3.out.lt); have x41 := HX4.out.cell 1; have x43 := HX4.out.cell 3; have x4f := fun i => HX4.out.frozen i; clear B4)
      | fail)
    go_ret
    exact ⟨rfl, _, _, none, _, (HT4.out.set (g := xb) HZ.out HS.out _).set (g := xb) HZ.out HS.out _, Blk.set (i := 3) (Blk.set (i := 1) HX4.out _) _, HZ.out, HS.out, rfl, rfl⟩
/-- An act, whatever it is. -/
theorem act_any (xb c : Nat) (h : BW s w0 w xb d c) (hm : d.pend.length < 900000) (hc : c ≤ 1000) (kind n torn cut : Int) (bp kp : Option Addr) (b : List UInt8) (keep : List Bool) (bc kc : Nat) (hn : n ≤ 9223372036854775807) (hb : Byts w bp b) (hbi : ∀ w5 : World, Below s w0 w5 → Bits w5 kp keep) (hlt : keep ≠ [] → ∀ b off, kp = some ⟨b, off, none⟩ → b < s) (hkl : keep.length ≤ 140737488351232) (hkc : keep.length ≤ kc) :
    Calls Try.prog 16 #[.pointer (some ⟨xb, 0, none⟩), .agg #[.int .i64 kind, .int .i64 n, .slice bp b.length bc, .slice kp keep.length kc, .int .i64 torn, .int .i64 cut]] w (actEnd s w0 xb d c) := by
  by_cases k3 : kind = 3
  · subst k3; exact act_arm xb c h n hn bp _ bc kp _ kc torn cut
  by_cases k4 : kind = 4
  · subst k4
    by_cases hem : keep = []
    · subst hem
      exact act_open0 xb c h hm n torn cut bp kp _ bc kc hbi hlt hkl hkc
    · exact act_open1 xb c h hm n torn cut bp kp _ bc kc keep hem hbi hlt hkl hkc
  by_cases k5 : kind = 5
  · subst k5; exact act_spoil xb c h hm n bp _ bc kp _ kc torn cut
  by_cases k1 : kind = 1
  · subst k1
    by_cases h7 : cut = 77
    · subst h7
      exact act_write1 xb c h hm n torn bp kp b bc _ kc hb
    · exact act_write0 xb c h hm n torn cut bp kp b bc _ kc h7 hb
  by_cases k2 : kind = 2
  · subst k2; exact act_commit xb c h hm hc n bp _ bc kp _ kc torn cut
  by_cases k6 : kind = 6
  · subst k6; exact act_move xb c h hm hc n bp _ bc kp _ kc torn cut
  exact act_read xb c h hm kind n bp _ bc kp _ kc torn cut k1 k2 k3 k4 k5 k6
end Go.Proofs.Ytnecigbncggogaa
