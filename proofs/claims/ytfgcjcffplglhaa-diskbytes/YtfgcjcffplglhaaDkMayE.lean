/- DiskBytes: the end: the clone, the image, both mends. Condition: fewer than a million writes are pending. -/
import Derived.Test.YtfgcjcffplglhaaDkMayW
namespace Go.Proofs.Ytfgcjcffplglhaa
open Go.RowKit
set_option linter.unusedVariables false
set_option maxRecDepth 20000

def kcells (l : List Bool) : List Value := l.map Value.bool
theorem kcells_len (l : List Bool) : (kcells l).length = l.length := List.length_map ..
theorem kcells_at {l : List Bool} {i : Nat} (h : i < l.length) : (kcells l)[i]? = some (.bool l[i]) := by simp [kcells, h]
theorem kcells_set (l : List Bool) (i : Nat) (c : Bool) : (kcells l).set i (.bool c) = kcells (l.set i c) := by simp [kcells, List.map_set]
def falses (L : Nat) : List Bool := List.replicate L false
def trues (L : Nat) : List Bool := List.replicate L true
def trueTo (L k : Nat) : List Bool := trues k ++ falses (L - k)
theorem trueTo_len {L k : Nat} (h : k ≤ L) : (trueTo L k).length = L := by simp [trueTo, trues, falses]; omega
theorem trueTo_zero (L : Nat) : trueTo L 0 = falses L := by simp [trueTo, trues]
theorem trueTo_all (L : Nat) : trueTo L L = trues L := by simp [trueTo, falses]
theorem trueTo_next {L k : Nat} (h : k < L) : (trueTo L k).set k true = trueTo L (k + 1) := by
  apply List.ext_getElem?
  intro i
  rw [List.getElem?_set]
  unfold trueTo trues falses
  by_cases h1 : k = i
  · subst h1
    rw [if_pos rfl, if_pos (by simp; omega), List.getElem?_append_left (by simp)]
    simp
  · rw [if_neg h1]
    by_cases h2 : i < k
    · rw [List.getElem?_append_left (by simpa using h2), List.getElem?_append_left (by simp; omega)]
      simp [h2, show i < k + 1 by omega]
    · rw [List.getElem?_append_right (by simp; omega), List.getElem?_append_right (by simp; omega), List.getElem?_replicate, List.getElem?_replicate]
      simp only [List.length_replicate]
      by_cases h3 : i < L
      · rw [if_pos (by omega), if_pos (by omega)]
      · rw [if_neg (by omega), if_neg (by omega)]
theorem infoBool : (Try.prog.info? 4).map (fun i => (i.zero, i.size, i.bytes)) = some (some (.bool false), 1, 1) := by kernel_rfl
theorem made_false (L : Nat) : madeCells (Value.bool false).cells L = (kcells (falses L)).toArray := by
  unfold falses
  apply Array.ext_getElem?
  intro i
  simp only [madeCells, kcells, List.getElem?_toArray, List.map_replicate]
  by_cases h : i < L
  · simp [h, Value.cells, Nat.mod_one]
  · simp [h]
theorem mk_bools (w : World) : (Instr.makeSlice 31 (.int .i64 100) (.int .i64 100)).run Try.prog w = .ok (.slice (some ⟨w.heap.size, 0, none⟩) 100 100) (w.alloc (.cells (kcells (falses 100)).toArray 4)) := by
  obtain ⟨i0, hi, hz0, hz1, hz2⟩ := info_parts infoBool
  have h := run_make (P := Try.prog) w 31 4 i0 (.bool false) Try.underlying31 hi hz0 .i64 .i64 100 100 (by omega) (Int.le_refl _) (by rw [hz2]; omega) (by omega)
  rw [hz1, Nat.mul_one, show (100 : Int).toNat = 100 from rfl, made_false] at h
  exact h
theorem Blk.bits {w : World} {g : Nat} {l : List Bool} (h : Blk w g (kcells l) 4) : Bits w (some ⟨g, 0, none⟩) l :=
  Or.inr ⟨g, 0, rfl, fun i hi => by rw [Nat.zero_add, h.cell i]; exact kcells_at hi⟩
variable {s : Nat} {w0 w w' : World} {db : Nat} {d : Dk} {mb : Nat} {vs : List Value} {c : Nat} {M : Nat → List (List UInt8)} {Z : Nat → Prop}
theorem BW.congr {M' : Nat → List (List UInt8)} (h : BW s w0 w db d mb vs c M Z) (e : ∀ n, n < c → M n = M' n) : BW s w0 w db d mb vs c M' Z :=
  ⟨h.dw, ⟨h.may.blk, h.may.len, h.may.zm, fun n hn => by rw [← e n hn]; exact h.may.row n hn, h.may.ne⟩, h.ge⟩
/-- Behind a store into bools. -/
theorem BW.setBool (h : BW s w0 w db d mb vs c M Z) {ab : Nat} {cs : List Value} (b : Blk w ab cs 4) (hz : Z ab) (i : Nat) (v : Value) : BW s w0 (w.setCell ⟨ab, i, none⟩ v) db d mb vs c M Z := by
  have C : Chg (· = ab) w (w.setCell ⟨ab, i, none⟩ v) := (Chg.refl (· = ab) w).setCell (p := ⟨ab, i, none⟩) (Or.inl rfl) v
  refine ⟨h.dw.other hz (h.ge _ hz) C, ⟨h.may.blk.same (set_block (fun e => ?_)), h.may.len, h.may.zm, fun n hn => ?_, h.may.ne⟩, h.ge⟩
  · subst e
    have := h.may.blk.symm.trans b
    simp at this
  · obtain ⟨u, e, r⟩ := h.may.row n hn
    refine ⟨u, e, r.same (fun k _ hk => set_block (fun e => ?_))⟩
    subst e
    rcases hk with hk | ⟨ds, b2⟩
    · obtain ⟨g2, cur, o2, _, hh⟩ := r.own
      rw [hk] at o2
      cases o2
      have := b.symm.trans hh
      simp at this
    · have := b.symm.trans b2
      simp at this
theorem BW.clone (h : BW s w0 w db d mb vs c M Z) (hm : d.pend.length < 1000000) :
    Calls Try.prog 11 #[.pointer (some ⟨db, 0, none⟩)] w fun e w' => e = .returned (.pointer (some ⟨w.heap.size, 0, none⟩)) ∧ PD w' w.heap.size (fun k => w.heap.size ≤ k ∧ k < w'.heap.size) d ∧ Below w.heap.size w w' := by
  obtain ⟨lb, nb, pv, P, _⟩ := h.dw.pd
  refine (clone_any db lb nb pv d w P hm).mono ?_
  rintro e w' ⟨lb', nb', pv', he, P', B', hn⟩
  exact ⟨he, ⟨lb', nb', pv', P', fun k hk => ⟨hn k hk, P'.lt hk⟩⟩, B'⟩
theorem BW.image (h : BW s w0 w db d mb vs c M Z) : Calls Try.prog 22 #[.pointer (some ⟨db, 0, none⟩)] w fun e w' => (∃ p q, e = .returned (.slice p d.img.length q) ∧ OwnB w' w.heap.size (.slice p d.img.length q) d.img) ∧ Below w.heap.size w w' := by
  refine h.dw.image.mono ?_
  rintro e w' ⟨v, rfl, O, B⟩
  obtain ⟨p, q, rfl, _⟩ := O.byts
  exact ⟨⟨p, q, rfl, O⟩, B⟩
/-- The clone's mend. -/
theorem mendC {w6 w7 w8 : World} {cb ab : Nat} {v : Value} (P : PD w7 cb (fun k => w6.heap.size ≤ k ∧ k < w7.heap.size) d) (B7 : Below w6.heap.size w6 w7) (B8 : Below w7.heap.size w7 w8) (O : OwnB w8 w7.heap.size v d.img) (b : Blk w6 ab (kcells (trues 100)) 4) (hm : d.pend.length ≤ 100) :
    Calls Try.prog 14 #[.pointer (some ⟨cb, 0, none⟩), .slice (some ⟨ab, 0, none⟩) 100 100, .int .i64 (-1), .int .i64 0] w8 fun e w' => e = .returned (.tuple #[]) ∧ PD w' cb (fun k => w6.heap.size ≤ k) (d.mended (trues 100) (-1) 0) ∧ OwnB w' w7.heap.size v d.img ∧ Below w6.heap.size w6 w' := by
  have hab : ab < w6.heap.size := b.lt
  have h76 := B7.size
  have h87 := B8.size
  have b8 : Blk w8 ab (kcells (trues 100)) 4 := (b.below B7 hab).below B8 (by omega)
  have t := mendD cb _ d (some ⟨ab, 0, none⟩) (trues 100) 100 (-1) 0 w8 (P.below B8) (by omega) b8.bits (fun _ b' off e f => by simp only [Option.some.injEq, Addr.mk.injEq] at e; omega)
  rw [show (trues 100).length = 100 from by simp [trues]] at t
  refine t.mono ?_
  rintro e w' ⟨he, P', C⟩
  refine ⟨he, P'.mono (fun k _ f => ?_), own_same O (fun k hk => C.block k (World.ownsRow.lt O k hk).2 (fun f => by have := (World.ownsRow.lt O k hk).1; omega)), B7.trans ((B8.mono (by omega)).trans (C.below (fun k f => f.1) (by omega)))⟩
  rcases f with f | f
  · exact f.1
  · omega
/-- What is there behind both mends. -/
structure BE (s : Nat) (w0 w : World) (db : Nat) (d' : Dk) (mb : Nat) (vs : List Value) (M : Nat → List (List UInt8)) (Z : Nat → Prop) (cb : Nat) (c' : Dk) (v : Value) (img : List UInt8) : Prop where
  bel : Below s w0 w
  sz : s ≤ w.heap.size
  pd : PD w db (fun _ => True) d'
  may : MayAt w Z mb vs 3 M
  lt : ∀ k, Z k → k < w.heap.size
  pc : PD w cb (fun _ => True) c'
  ow : OwnB w s v img
theorem BE.below {db : Nat} {d' c' : Dk} {cb : Nat} {v : Value} {img : List UInt8} (h : BE s w0 w db d' mb vs M Z cb c' v img) (B : Below w.heap.size w w') : BE s w0 w' db d' mb vs M Z cb c' v img :=
  ⟨h.bel.trans (B.mono h.sz), Nat.le_trans h.sz B.size, h.pd.below B, h.may.kept (fun k hz => B.block k (h.lt k hz)), fun k hz => Nat.lt_of_lt_of_le (h.lt k hz) B.size, h.pc.below B, h.ow.below B⟩
theorem mendE {w6 w9 : World} {cb : Nat} {c' : Dk} {v : Value} {hb : Nat} (h : BW s w0 w6 db d mb vs 3 M Z) (B9 : Below w6.heap.size w6 w9) (P : PD w9 cb (fun k => w6.heap.size ≤ k) c') (O : OwnB w9 hb v d.img) (hh : w6.heap.size ≤ hb) (kp : Option Addr) (keep : List Bool) (kc : Nat) (torn cut : Int) (hk : Bits w0 kp keep) (hs : s = w0.heap.size) (hm : d.pend.length < 1000000) :
    Calls Try.prog 14 #[.pointer (some ⟨db, 0, none⟩), .slice kp keep.length kc, .int .i64 torn, .int .i64 cut] w9 fun e w' => e = .returned (.tuple #[]) ∧ BE s w0 w' db (d.mended keep torn cut) mb vs M Z cb c' v d.img := by
  have h9 := h.grow B9
  have hd : PD w9 db (fun k => (s ≤ k ∧ ¬ Z k) ∧ k < w6.heap.size) d := (h.dw.pd.mono (fun k hk f => ⟨f, hk⟩)).below B9
  have hk9 : Bits w9 kp keep := hk.below (by rw [← hs]; exact h9.dw.bel)
  refine (mendD db _ d kp keep kc torn cut w9 hd hm hk9 (fun hem b off e f => ?_)).mono ?_
  · have := hk.lt hem b off e
    omega
  · rintro e w' ⟨he, P', C⟩
    refine ⟨he, h9.dw.bel.trans (C.below (fun k f => f.1.1) h9.dw.size), Nat.le_trans h9.dw.size C.size, P'.mono (fun _ _ _ => trivial), h9.may.kept (fun k hz => C.block k (h9.dw.lt k hz) (fun f => f.1.2 hz)), fun k hz => Nat.lt_of_lt_of_le (h9.dw.lt k hz) C.size, (P.chg C (fun k f g => by omega)).mono (fun _ _ _ => trivial), own_base (own_same O (fun k hk => C.block k (World.ownsRow.lt O k hk).2 (fun f => by have := (World.ownsRow.lt O k hk).1; omega))) (Nat.le_trans h.dw.size hh)⟩
variable {d' c' : Dk} {cb : Nat} {v : Value} {img : List UInt8}
theorem BE.read (h : BE s w0 w db d' mb vs M Z cb c' v img) (hf : d'.free) {k : Nat} (hk : k < d'.pages) : Calls Try.prog 29 #[.pointer (some ⟨db, 0, none⟩), .int .i64 (k : Int)] w fun e w' => e = .returned (.tuple #[.slice (some ⟨w.heap.size + 1, 0, none⟩) 512 512, .int .i64 0]) ∧ Pg w' (w.heap.size + 1) (d'.has (k : Int)) ∧ Below w.heap.size w w' :=
  (Go.Proofs.Ytfgcjcffplglhaa.readD db _ d' k w h.pd (hf.reach (by omega) (by omega))).mono (fun _ _ x => ⟨x.1, x.2.1, x.2.2.1⟩)
/-- A row, and a byte of it. -/
theorem BE.rowAt (h : BE s w0 w db d' mb vs M Z cb c' v img) {k : Nat} (hk : k < 3) : ∃ g off cap, w.cell? ⟨mb, k, none⟩ = some (.slice (some ⟨g, off, none⟩) (M k).length cap) ∧ (M k).length ≤ cap ∧ vs[k]? = some (.slice (some ⟨g, off, none⟩) (M k).length cap) := by
  obtain ⟨u, e, r⟩ := h.may.row k hk
  obtain ⟨g, off, cap, cur, rfl, hz, hh, h1, h2, h3, h4⟩ := r
  exact ⟨g, off, cap, (h.may.blk.cell k).trans e, h1, e⟩
theorem BE.byteAt (h : BE s w0 w db d' mb vs M Z cb c' v img) {k : Nat} (hk : k < 3) {g off cap : Nat} (hv : vs[k]? = some (.slice (some ⟨g, off, none⟩) (M k).length cap)) {j : Nat} (hj : j < (M k).length) : ∃ pb, w.cell? ⟨g, off + j, none⟩ = some (.slice (some ⟨pb, 0, none⟩) 512 512) ∧ ∀ i (hi : i < (M k)[j].length), w.cell? ⟨pb, i, none⟩ = some (.int .u8 ((M k)[j][i].toNat : Int)) := by
  obtain ⟨u, e, r⟩ := h.may.row k hk
  obtain ⟨g2, off2, cap2, cur, rfl, hz, hh, h1, h2, h3, h4⟩ := r
  rw [hv] at e
  simp only [Option.some.injEq, Value.slice.injEq, Addr.mk.injEq, and_true, true_and] at e
  obtain ⟨⟨rfl, rfl⟩, rfl⟩ := e
  obtain ⟨pb, a, b, q⟩ := h4 j hj
  refine ⟨pb, by simp [World.cell?, hh, a], fun i hi => ?_⟩
  rw [q.cell i]
  exact bcells_at hi
theorem BE.imgC (h : BE s w0 w db d' mb vs M Z cb c' v img) (hi : c'.img = img) : Calls Try.prog 22 #[.pointer (some ⟨cb, 0, none⟩)] w fun e w' => (∃ p q, e = .returned (.slice p img.length q) ∧ Byts w' p img) ∧ BE s w0 w' db d' mb vs M Z cb c' v img := by
  obtain ⟨lb, nb, pv, P, _⟩ := h.pc
  refine (image_any cb lb nb pv _ w P).mono ?_
  rintro e w' ⟨v, rfl, O, B⟩
  rw [hi] at O
  obtain ⟨p, q, rfl, hb, _⟩ := O.byts
  exact ⟨⟨p, q, rfl, hb⟩, h.below B⟩
theorem BE.conv {p : Option Addr} {q : Nat} (h : BE s w0 w db d' mb vs M Z cb c' (.slice p img.length q) img) : (convert 30 9 (.slice p img.length q)).run Try.prog w = .ok (.string ⟨img.toArray⟩) w := by
  obtain ⟨p', q', e, hb, _⟩ := h.ow.byts
  simp only [Value.slice.injEq, true_and] at e
  obtain ⟨rfl, rfl⟩ := e
  exact conv_byts q hb
end Go.Proofs.Ytfgcjcffplglhaa
