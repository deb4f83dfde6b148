/- What (*writer).put does: a byte more, its bits turned by the mask. Condition: the bytes lie within the reach. -/
import Derived.Test.YtpdfgifkommpdabOwnBytes
namespace Go.Proofs.Ytpdfgifkommpdab
open Go.RowKit Go.Lib Go.Sort
set_option linter.unusedVariables false

theorem xor_tb (t : Bool) (c : UInt8) : bits .xor .u8 (c.toNat : Int) (msk t) = ((tb t c).toNat : Int) := by
  have : ∀ t : Bool, ∀ n : Fin 256, bits .xor .u8 (((UInt8.ofNat n.val).toNat : Nat) : Int) (msk t) = ((tb t (UInt8.ofNat n.val)).toNat : Int) := by decide +kernel
  have h := this t ⟨c.toNat, UInt8.toNat_lt c⟩
  simpa using h

theorem past_append {wb : Nat} {v : Value} {w w1 w3 : World} {g cap n H : Nat} (B : Below w.heap.size w w1) (hg : w1.grownBy w3 v.ownBlock) (hat : v.ownBlock = some g ∨ g = H) (hH : w1.heap.size = H) : Past wb v (.slice (some ⟨g, 0, none⟩) n cap) w w3 :=
  ⟨hg.os.trans B.os, hg.tape.trans B.tape, hg.output.trans B.output, Nat.le_trans B.size hg.size,
   fun k hk _ ho => (hg.block k (Nat.lt_of_lt_of_le hk B.size) (fun e => ho e.symm)).trans (B.block k hk),
   fun k hk ho e => by
    simp only [Value.ownBlock, Option.some.injEq] at e
    subst e
    rcases hat with h | h
    · exact ho h
    · have := B.size
      omega⟩
theorem Past.put {wb o : Nat} {v v' x : Value} {w w' : World} (h : Past wb v v' w w') : Past wb v v' w (w'.setCell ⟨wb, o, none⟩ x) :=
  ⟨h.os, h.tape, h.output, by simpa [World.setCell] using h.size, fun k hk hn ho => (Below.heap_setCell _ _ _ _ hn).trans (h.block k hk hn ho), h.own⟩
/-- The writer behind an append and a store. -/
theorem Wr.made {w w3 : World} {wb : Nat} {m : Int} {l l' : List UInt8} {v v' : Value} (h : Wr w wb m l v) (P : Past w.heap.size v v' w w3) (O : OwnB w3 (wb + 1) v' l') : Wr (w3.setCell ⟨wb, 0, none⟩ v') wb m l' v' := by
  have hne : wb ≠ w.heap.size := Nat.ne_of_lt h.lt
  have hno : v.ownBlock ≠ some wb := fun e => by have := h.ge _ e; omega
  have d0 := P.cell h.c0 hne hno
  have d1 := P.cell h.c1 hne hno
  have e0 : w3.frozen? ⟨wb, 0, none⟩ = false := (World.frozen?_of_block (P.block wb h.lt hne hno)).trans h.f0
  have e1 : w3.frozen? ⟨wb, 1, none⟩ = false := (World.frozen?_of_block (P.block wb h.lt hne hno)).trans h.f1
  refine ⟨ownsRow_setCell_below O (Nat.lt_succ_self wb) _, ?_, ?_, ?_, ?_⟩ <;> simp [go_sem, d0, d1, e0, e1]

theorem below_alloc_drew (w : World) (o : Obj) : Below w.heap.size w (w.alloc o).drew := ((Below.refl _ _).alloc (Nat.le_refl _) o).drew
theorem below_drew_alloc (w : World) (o : Obj) : Below w.heap.size w (w.drew.alloc o) := (Below.refl _ _).drew.alloc (Nat.le_refl _) o

set_option maxHeartbeats 2000000 in
theorem put_any (t : Bool) (wb : Nat) (c : UInt8) (n : Int) (l : List UInt8) (v : Value) (w : World) (hn : (c.toNat : Int) = n) (hW : Wr w wb (msk t) l v) (hl : l.length + 1 ≤ 140737488351232) :
    Calls Try.prog 19 #[.pointer (some ⟨wb, 0, none⟩), .int .u8 n] w fun e w' => e = .returned (.tuple #[]) ∧ ∃ v', Wr w' wb (msk t) (l ++ [tb t c]) v' ∧ Past wb v v' w w' := by
  obtain ⟨i0, hi, hz0, hz1, hz2⟩ := info_parts infoByte
  have hlt := hW.lt
  have hge := hW.ge
  have HW : Hid (Wr w wb (msk t) l v) := hW
  have hno : v.ownBlock ≠ some wb := fun e => by have := hge _ e; omega
  have hnn : Hid (v.ownBlock ≠ some wb) := hno
  clear hno
  obtain ⟨hO, c0, c1, f0, f1⟩ := hW
  have HO : Hid (OwnB w (wb + 1) v l) := hO
  clear hO
  have hx := xor_tb t c
  rw [hn] at hx
  have htl := UInt8.toNat_lt (tb t c)
  have hcl := UInt8.toNat_lt c
  generalize msk t = m at *
  generalize hz : tb t c = z at *
  go_enter Try.func19, Try.ntmps19
  go_wp2
  go_region_law (refine step_append_lies _ rfl (.tmp 8) (.tmp 15) 27 rfl (wb + 1) 5 i0 (.int .u8 0) 1 1 Try.underlying27 hi hz0 hz1 hz2 rfl (by decide) v _ _ rfl (by first | exact (HO.out.alloc _).drew | exact HO.out.drew.alloc _) ⟨w.heap.size, 0, none⟩ 1 1 [.int .u8 (z.toNat : Int)] rfl rfl (World.news_of_block (heap_alloc_new w _)) (by simp [Value.oneCell']) (by decide) (by unfold maxLen; omega) (by omega) (by simp; omega) _ rfl ?_; intro g' cap' w3 hown' hgrow hat hlt'; have P : ∀ wx, Past wx v (.slice (some ⟨g', 0, none⟩) (l.length + 1) cap') w w3 := (fun wx => past_append (by first | exact below_alloc_drew w _ | exact below_drew_alloc w _) hgrow hat rfl); have q0 := (P w.heap.size).cell c0 (Nat.ne_of_lt hlt) hnn.out; have q1 : w3.frozen? ⟨wb, 0, none⟩ = false := (World.frozen?_of_block ((P w.heap.size).block wb hlt (Nat.ne_of_lt hlt) hnn.out)).trans f0; have HP : Hid (∀ wx, Past wx v (.slice (some ⟨g', 0, none⟩) (l.length + 1) cap') w w3) := P; have HN : Hid (OwnB w3 (wb + 1) (.slice (some ⟨g', 0, none⟩) (l.length + 1) cap') (l ++ [z])) := own_snoc rfl rfl hown'; clear P hown' hgrow hat hlt')
  all_goals
    go_wp2
    refine end0 Try.results19 rfl ?_
    exact ⟨rfl, _, HW.out.made (HP.out _) HN.out, (HP.out wb).put⟩
end Go.Proofs.Ytpdfgifkommpdab
