/- What (*Disk).Image and Clone, maps.Clone and slices.Clone do. Condition: fewer than a million writes are pending. -/
import Derived.Test.YtnecigbncggogaaDkMore
import Derived.Test.YtnecigbncggogaaDkPend
namespace Go.Proofs.Ytnecigbncggogaa
open Go.RowKit
set_option linter.unusedVariables false
set_option maxRecDepth 20000

/-- A row of bytes that the call owns. -/
def OwnB (w : World) (base : Nat) (v : Value) (l : List UInt8) : Prop := w.ownsRow base 5 1 v l.length (bcells l)
theorem OwnB.byts {w : World} {base : Nat} {v : Value} {l : List UInt8} (o : OwnB w base v l) : ∃ p c, v = .slice p l.length c ∧ Byts w p l ∧ (∀ b off, p = some ⟨b, off, none⟩ → base ≤ b) := by
  obtain ⟨h1, h2⟩ := o
  rcases h2 with ⟨rfl, h0⟩ | ⟨g, cap, cur, rfl, hg, hh, hle, hm, hs, ht⟩
  · exact ⟨none, 0, by rw [h0], Or.inl (List.length_eq_zero_iff.1 h0), fun b off e => by cases e⟩
  · refine ⟨_, cap, rfl, Or.inr ⟨g, 0, rfl, fun i hi => ?_⟩, fun b off e => ?_⟩
    · have hu := bcells_at hi
      rw [← ht, List.getElem?_take, if_pos (by omega), Array.getElem?_toList] at hu
      simp [World.cell?, hh, hu]
    · simp only [Option.some.injEq, Addr.mk.injEq] at e
      omega
/-- append(s, x...) of owned bytes and bytes of a block, x not empty. -/
theorem appBlk {ops : Array Oper} {rest : List Oper} {o : Oper} {a : Act} {w : World} {Q : Exit → Act → World → Prop} (base : Nat) (s x : Operand) (v : Value) (l m : List UInt8) (hgd : o.guard = none)
    (ho : o.op = .call { callee := .builtin .append, args := #[s, x], argTypes := #[22, 22] }) (hs : a.eval s = v) (g off cx : Nat) (n : Nat) (hx : a.eval x = .slice (some ⟨g, off, none⟩) n cx) (hn : n = m.length)
    (O : OwnB w base v l) (X : Byts w (some ⟨g, off, none⟩) m) (hm : 0 < m.length) (hl : l.length + m.length ≤ 140737488351232) (hb : base ≤ w.heap.size)
    (h : ∀ v' w', OwnB w' base v' (l ++ m) → w.grownBy w' v.ownBlock → (v'.ownBlock = v.ownBlock ∨ v'.ownBlock = some w.heap.size) → wpList Try.prog ops Q rest (a.put o.dst v') w') :
    wpList Try.prog ops Q (o :: rest) a w := by
  subst hn
  obtain ⟨i0, hi, hz0, hz1, hz2⟩ := info_parts infoByte
  obtain ⟨ad, e, hsrc⟩ := X.src (by rw [bcells_len]; exact hm)
  simp only [Option.some.injEq] at e
  subst e
  refine wpList_append_lies _ hgd s x 22 ho base 5 i0 (.int .u8 0) 1 1 Try.underlying22 hi hz0 hz1 hz2 rfl (by decide) v _ _ hs O _ m.length cx (bcells m) hx (by rw [bcells_len]; omega) hsrc (bcells_one m) hm (by unfold maxLen; omega) (by omega) hb _ rfl ?_
  intro g' cap' w3 hown hgrow hat hlt
  rw [bcells_append] at hown
  refine h _ w3 ?_ hgrow ?_
  · unfold OwnB
    rw [List.length_append]
    exact hown
  · rcases hat with h | h
    · exact Or.inl (by rw [h]; rfl)
    · exact Or.inr (by rw [h]; rfl)
/-- The first k pages of a disk. -/
def imgTo (d : Dk) : Nat → List UInt8
  | 0 => []
  | k + 1 => imgTo d k ++ d.has (k : Int)
def Dk.img (d : Dk) : List UInt8 := imgTo d d.pages
theorem imgTo_len {d : Dk} (h : d.ok) : ∀ k, (imgTo d k).length = k * 512
  | 0 => rfl
  | k + 1 => by
    show (imgTo d k ++ d.has (k : Int)).length = _
    rw [List.length_append, imgTo_len h k, h.has]
    omega
theorem mk_cap (L : Nat) (hL : L ≤ 140737488351232) : ∃ M : Array Value, M.size = L ∧ ∀ w : World, (Instr.makeSlice 22 (.int .i64 0) (.int .i64 (L : Int))).run Try.prog w = .ok (.slice (some ⟨w.heap.size, 0, none⟩) 0 L) (w.alloc (.cells M 5)) := by
  obtain ⟨i0, hi, hz0, hz1, hz2⟩ := info_parts infoByte
  refine ⟨madeCells (Value.int .u8 0).cells (L * 1), by rw [size_madeCells, Nat.mul_one], fun w => ?_⟩
  have h := run_make (P := Try.prog) w 22 5 i0 (.int .u8 0) Try.underlying22 hi hz0 .i64 .i64 0 (L : Int) (by decide) (by omega) (by rw [hz2]; omega) (by omega)
  rw [hz1] at h
  simpa using h
theorem below_own {w0 w w' : World} {B : Nat} {v : Value} (hb : Below B w0 w) (hg : w.grownBy w' v.ownBlock) (hB : B ≤ w.heap.size) (hv : ∀ k, v.ownBlock = some k → B ≤ k) : Below B w0 w' := hb.grown hg hB hv
set_option maxHeartbeats 1000000 in
theorem image_any (db lb nb : Nat) (pv : Value) (d : Dk) (w : World) (h : PDisk w db lb nb pv d) :
    Calls Try.prog 18 #[.pointer (some ⟨db, 0, none⟩)] w fun e w' => ∃ v, e = .returned v ∧ OwnB w' w.heap.size v d.img ∧ Below w.heap.size w w' := by
  obtain ⟨c0, c1, c2, c3, c4, c5, fz⟩ := h.cells
  have HP := hid h
  have hpg := h.ok.pages
  have hok := hid h.ok
  obtain ⟨M, hM, hmk⟩ := mk_cap (d.pages * 512) (by omega)
  have hmk' : ∀ w : World, (Instr.makeSlice 22 (.int .i64 0) (.int .i64 ((d.pages : Int) * 512))).run Try.prog w = .ok (.slice (some ⟨w.heap.size, 0, none⟩) 0 (d.pages * 512)) (w.alloc (.cells M 5)) := fun w => by
    have := hmk w
    rwa [Int.natCast_mul] at this
  have HO0 : Hid (OwnB (w.alloc (.cells M 5)) w.heap.size (.slice (some ⟨w.heap.size, 0, none⟩) 0 (d.pages * 512)) (imgTo d 0)) := World.ownsRow_made w M _ (Nat.le_refl _) (by unfold maxLen; omega) (by omega)
  have hpb : (d.pages : Int) ≤ 4096 := by omega
  have HC : Hid (PDisk (w.alloc (.cells M 5)) db lb nb pv d) := h.alloc _
  have z := zeroPage
  have HZ : Hid (zero512.length = 512) := zero512_len
  clear h hmk hM
  have a0 := HC.out.cells.1
  go_enter Try.func18, Try.ntmps18
  go_wp2
  clear hmk'
  go_loopw [3, 16] (fun v i wr => ∃ k : Nat, i = .int .i64 (k : Int) ∧ k ≤ d.pages ∧ OwnB wr w.heap.size v (imgTo d k) ∧ Below w.heap.size w wr) (fun _ i _ => d.pages - (RowKit.intOf i).toNat)
  case atStart => exact ⟨0, rfl, Nat.zero_le _, HO0.out, (Below.refl _ _).alloc (Nat.le_refl _) _⟩
  case round =>
    clear HO0 HC a0 c0 c1 c2 c3 c4 c5 fz
    obtain ⟨k, rfl, hk, hO, hB⟩ := hrel
    have HO := hid hO
    have HB := hid hB
    by_cases hx : k < d.pages
    · have H := hid (has_any db lb nb pv d (k : Int) wr (HP.out.below hB))
      have HE : Hid ((d.has (k : Int)).length = 512) := hok.out.has _
      have HL : Hid ((imgTo d k).length + (d.has (k : Int)).length ≤ 140737488351232) := by show _ ≤ _; rw [imgTo_len hok.out, HE.out]; omega
      have HN : Hid (imgTo d k ++ d.has (k : Int) = imgTo d (k + 1)) := rfl
      have hsz := hB.size
      clear hO hB
      generalize d.has (k : Int) = b at *
      generalize imgTo d k = im at *
      have HX0 := (Pg.new (wr.alloc (.cells (pg b) 93)) b).blk.byts
      rw [show (wr.alloc (.cells (pg b) 93)).heap.size = wr.heap.size + 1 by simp] at HX0
      have HX := hid HX0
      clear HX0
      go_wp2_with (first
        | (go_at_call 55; with_reducible refine H.out.mono ?_; rintro e w3 ⟨rfl, hw⟩; subst hw)
        | (refine wl_new_page rfl _ _ rfl _ _ _ rfl ?hg rfl ?hi ?hj ?_; (case hg => simp); (case hi => exact HE.out); (case hj => exact HZ.out); try go_frame)
        | (at_builtin; refine appBlk w.heap.size _ _ _ im b rfl rfl rfl _ _ _ _ rfl ?hn ?hO ?hX ?hm ?hl ?hb ?_; (case hn => exact HE.out.symm); (case hO => exact World.ownsRow.alloc (World.ownsRow.alloc HO.out _) _); (case hX => exact HX.out); (case hm => rw [HE.out]; omega); (case hl => exact HL.out); (case hb => simp; omega); intro v' w' O' G' A'; have HO' := hid O'; have HG' := hid G'; clear O' G' A'; try go_frame)
        | fail)
      go_roundw
      case rel =>
        refine ⟨k + 1, by go_num, by omega, by rw [← HN.out]; exact HO'.out, ?_⟩
        exact below_own (((HB.out.alloc hsz _).alloc (by simp; omega) _)) HG'.out (by simp; omega) (fun j hj => (HO.out.lt j hj).1)
      case measure => simp [RowKit.intOf]; omega
    · obtain rfl : k = d.pages := by omega
      clear hO hB
      go_wp2
      go_ret
      exact ⟨_, rfl, HO.out, HB.out⟩
end Go.Proofs.Ytnecigbncggogaa
