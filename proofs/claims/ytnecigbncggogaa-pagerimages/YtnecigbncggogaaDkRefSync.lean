/- What the document's Sync and Mend do. Condition: fewer than a million writes are pending. -/
import Derived.Test.YtnecigbncggogaaDkRefWrOk
import Derived.Deep.RegionHeldLaw
namespace Go.Proofs.Ytnecigbncggogaa
open Go.RowKit
set_option linter.unusedVariables false
set_option maxRecDepth 20000

/-- copy of bytes into a block, at a step of a region that draws. -/
theorem st_copy {ops : Array Oper} {o : Oper} {a : Act} {w : World} {K : Act → World → Prop} {Q : Exit → Act → World → Prop} {E : Prop} (hgd : o.guard = none) (d s : Operand)
    (ho : o.op = .call { callee := .builtin .copy, args := #[d, s], argTypes := #[22, 22] })
    (g off dLen dCap : Nat) (sp : Option Addr) (sLen sCap : Nat) (hd : a.eval d = .slice (some ⟨g, off, none⟩) dLen dCap) (hs : a.eval s = .slice sp sLen sCap)
    (cur : List Value) (t : TypeId) (hb : Blk w g cur t) (cs : List Value) (hn : cs.length = Nat.min sLen dLen)
    (hsrc : 0 < cs.length → ∃ ad, sp = some ad ∧ ∀ j v, cs[j]? = some v → w.cell? (ad.add j) = some v) (hfit : off + cs.length ≤ cur.length) (h1 : ∀ v ∈ cs, v.oneCell' = true)
    (h : ∀ w', Blk w' g (splice cur off cs) t → (∀ F : Nat → Prop, F g → Chg F w w') → w'.heap.size = w.heap.size → K (a.put o.dst (goInt cs.length)) w') : if Region.wanted o (yielded ops a.tmps) = true then Oper.wp Try.prog o a w K Q else E := by
  have hw : Region.wanted o (yielded ops a.tmps) = true := by simp [Region.wanted, hgd]
  rw [if_pos hw]
  by_cases h0 : cs.length = 0
  · obtain rfl : cs = [] := List.eq_nil_of_length_eq_zero h0
    have hrun := run_copy_none (P := Try.prog) w 22 22 o.type 5 (some ⟨g, off, none⟩) sp dLen dCap sLen sCap Try.underlying22 sizeByte (by simpa using hn.symm)
    unfold Oper.wp
    simp [execOp, ho, resolve, invoke, builtin, hd, hs, hrun, Result.andThen]
    exact h w (by simpa [splice] using hb) (fun F _ => Chg.refl F w) rfl
  · obtain ⟨ad, rfl, hs2⟩ := hsrc (by omega)
    have hrun := run_copy_row (P := Try.prog) w 22 22 o.type 5 g off dLen dCap ad sLen sCap cur.toArray t cs Try.underlying22 sizeByte hb hn hs2 (by simpa using hfit) h1
    unfold Oper.wp
    simp [execOp, ho, resolve, invoke, builtin, hd, hs, hrun, Result.andThen]
    exact h _ (by simpa [splice, Blk] using setRow_heap w g _ _ t _ hb) (fun F hF => (Chg.refl F w).setRow (Or.inl hF) _) (by simp)
/-- The disk while its writes are laid down: the first k of them last. -/
def Dk.part (d : Dk) (c : Nat → Nat) (k : Nat) : Dk := { d with last := settleIn c (d.pend.take k) 0 d.last }
theorem Dk.part_zero (d : Dk) (c : Nat → Nat) : d.part c 0 = d := rfl
theorem Dk.part_ok {d : Dk} (h : d.ok) (c : Nat → Nat) (k : Nat) : (d.part c k).ok :=
  ⟨settleIn_len c _ _ _ h.last (fun x hx => h.pend x (List.mem_of_mem_take hx)), h.pend, h.page, h.arm1, h.arm2, h.pages⟩
/-- One write more is laid down. -/
theorem RDisk.laid {w w' : World} {rb lb : Nat} {pv : Value} {rp : RP} {d : Dk} {c : Nat → Nat} {k : Nat} (h : RDisk w rb lb pv rp (d.part c k)) (hok : d.ok) (hk : k < d.pend.length) (m : Nat) (hm : d.pend[k].1 = (m : Int)) (hc : c k ≤ 512)
    (B : Blk w' lb (splice (bcells (flatL (d.part c k).last d.pages)) (m * 512) (bcells (d.pend[k].2.take (c k)))) 5) (C : ∀ F : Nat → Prop, F lb → Chg F w w') : RDisk w' rb lb pv rp (d.part c (k + 1)) := by
  have hb : m < d.pages := by
    have := (h.ok.page d.pend[k] (List.getElem_mem hk)).2
    rw [hm] at this
    exact Int.ofNat_lt.1 this
  have e : splice (flatL (d.part c k).last d.pages) (m * 512) (d.pend[k].2.take (c k)) = flatL (d.part c (k + 1)).last d.pages := by
    rw [flatL_put h.ok.last m _ (by rw [List.length_take]; omega) d.pages hb]
    refine congrArg (fun L => flatL L d.pages) ?_
    show _ = settleIn c (d.pend.take (k + 1)) 0 d.last
    rw [settleIn_take c d.pend d.last k hk, hm]
    rfl
  rw [bcells_splice, e] at B
  have s : ∀ j, j ≠ lb → j < w.heap.size → w'.heap[j]? = w.heap[j]? := fun j hj hl => (C (· = lb) rfl).block j hl hj
  refine ⟨h.blk.same (s rb (fun e => h.nl e.symm) h.blk.lt), B, own_same h.pd (fun g hg => s g (by rintro rfl; exact h.nq hg) (h.pd.lt g hg).2), h.pe, fun x hx => (h.pb x hx).same (fun b off he => ?_), h.pn, h.nl, h.np, h.nq, Dk.part_ok hok c (k + 1)⟩
  simp only [Option.some.injEq, Addr.mk.injEq] at he
  rw [← he.1]
  exact s _ (h.pn x hx).2.1 (h.lt (Or.inr (Or.inr (Or.inr ⟨x, hx, rfl⟩))))
/-- Nothing is pending any more. -/
theorem RDisk.done {w : World} {rb lb : Nat} {pv : Value} {rp : RP} {d : Dk} {c : Nat → Nat} (h : RDisk w rb lb pv rp (d.part c d.pend.length)) (hok : d.ok) : RDisk (w.setCell ⟨rb, 1, none⟩ (.slice none 0 0)) rb lb (.slice none 0 0) [] (d.settled c) := by
  have e : ∀ k, k ≠ rb → (w.setCell ⟨rb, 1, none⟩ (.slice none 0 0)).heap[k]? = w.heap[k]? := fun k hk => set_block hk
  refine ⟨h.blk.set (i := 1) _, ?_, World.ownsRow_nil _ _ _ _, rfl, fun x hx => (by cases hx), fun x hx => (by cases hx), h.nl, by simp [Value.ownBlock], by simp [Value.ownBlock], hok.settled c⟩
  have q := h.lm.same (e lb h.nl)
  have e2 : (d.part c d.pend.length).last = (d.settled c).last := by
    show settleIn c (d.pend.take d.pend.length) 0 d.last = settleIn c d.pend 0 d.last
    rw [List.take_length]
  rw [e2] at q
  exact q
theorem Chg.of_drew {F : Nat → Prop} {w w' : World} (c : Chg F w.drew w') : Chg F w w' := ⟨c.os, c.tape, c.output, c.size, c.block⟩
/-- What a walk asks of a write that is to be laid down. -/
theorem RDisk.next {w : World} {rb lb : Nat} {pv : Value} {rp : RP} {d : Dk} {c : Nat → Nat} {k : Nat} (h : RDisk w rb lb pv rp (d.part c k)) (hok : d.ok) (hk : k < d.pend.length) (hc : c k ≤ 512) :
    ∃ (g2 cap2 m xg xc L : Nat) (xb : List UInt8), pv = .slice (some ⟨g2, 0, none⟩) d.pend.length cap2 ∧ d.pend.length ≤ cap2 ∧ L = d.pages * 512 ∧ m * 512 + 512 ≤ L ∧ (L : Int) ≤ 2097152 ∧ (m : Int) < 4096 ∧ 512 ≤ xc ∧
      (w.cell? ⟨rb, 0, none⟩ = some (.slice (some ⟨lb, 0, none⟩) L L) ∧ w.cell? ⟨rb, 1, none⟩ = some pv ∧ w.cell? ⟨g2, k * 2, none⟩ = some (.int .i64 (m : Int)) ∧ w.cell? ⟨g2, k * 2 + 1, none⟩ = some (.slice (some ⟨xg, 0, none⟩) 512 xc)) ∧
      Hid (xb.length = 512 ∧ Byts w (some ⟨xg, 0, none⟩) (xb.take (c k)) ∧ Blk w lb (bcells (flatL (d.part c k).last d.pages)) 5 ∧ (bcells (flatL (d.part c k).last d.pages)).length = L) ∧
      Hid (∀ w' : World, Blk w' lb (splice (bcells (flatL (d.part c k).last d.pages)) (m * 512) (bcells (xb.take (c k)))) 5 → (∀ F : Nat → Prop, F lb → Chg F w.drew w') → RDisk w' rb lb pv rp (d.part c (k + 1)) ∧
        (w'.cell? ⟨rb, 0, none⟩ = some (.slice (some ⟨lb, 0, none⟩) L L) ∧ w'.cell? ⟨rb, 1, none⟩ = some pv ∧ w'.cell? ⟨g2, k * 2, none⟩ = some (.int .i64 (m : Int)) ∧ w'.cell? ⟨g2, k * 2 + 1, none⟩ = some (.slice (some ⟨xg, 0, none⟩) 512 xc))) := by
  have hx : k < rp.length := by rw [h.len]; exact hk
  obtain ⟨g2, cap2, hpv, h1, h2, h3, h4⟩ := h.wrote hx
  have hmem : rp[k] ∈ rp := List.getElem_mem hx
  have hb := h.bl hmem
  have hp := h.pb _ hmem
  have hn := h.pn _ hmem
  have he : d.pend[k] = rp[k].1 := by
    have : d.pend = rp.map (·.1) := h.pe
    simp [this]
  obtain ⟨m, hm⟩ := Int.eq_ofNat_of_zero_le hb.2.1
  have hpg := hok.pages
  have hmp : m < d.pages := by
    have := hb.2.2
    rw [hm] at this
    exact Int.ofNat_lt.1 this
  have F := h.cells
  have hfl : (flatL (d.part c k).last d.pages).length = d.pages * 512 := flatL_len h.ok.last _
  have hbt : Byts w (some ⟨rp[k].2.1, 0, none⟩) (rp[k].1.2.take (c k)) := by
    rcases hp with hp | ⟨b, off, hq, hcell⟩
    · left; rw [hp]; simp
    · refine Or.inr ⟨b, off, hq, fun i hi => ?_⟩
      rw [List.getElem_take]
      exact hcell i (by rw [List.length_take] at hi; omega)
  refine ⟨g2, cap2, m, rp[k].2.1, rp[k].2.2, d.pages * 512, rp[k].1.2, hpv, h1, rfl, by omega, by omega, by omega, hn.2.2.2.1, ⟨F.1, F.2.1, by rw [h3, hm], h4⟩, ⟨hb.1, hbt, h.lm, by rw [bcells_len]; exact hfl⟩, fun w' B C => ?_⟩
  have L := h.laid (w' := w') hok hk m (by rw [he, hm]) hc (by rw [he]; exact B) (fun F hF => (C F hF).of_drew)
  obtain ⟨g3, cap3, hpv3, _, _, i3, i4⟩ := L.wrote hx
  rw [hpv] at hpv3
  simp only [Value.slice.injEq, Option.some.injEq, Addr.mk.injEq] at hpv3
  obtain ⟨⟨rfl, _⟩, _, _⟩ := hpv3
  exact ⟨L, L.cells.1, L.cells.2.1, by rw [i3, hm], i4⟩
theorem take_min {xb : List UInt8} {q D : Nat} (hx : xb.length = 512) (hq : q ≤ 512) (hD : 512 ≤ D) : (bcells (xb.take q)).length = Nat.min q D := by
  rw [bcells_len, List.length_take, hx]
  show min q 512 = min q D
  omega
theorem take_le {xb : List UInt8} {q : Nat} (hx : xb.length = 512) : (bcells (xb.take q)).length ≤ 512 := by
  rw [bcells_len, List.length_take, hx]
  omega
set_option maxRecDepth 20000 in
set_option maxHeartbeats 2000000 in
theorem rsync_ok (rb lb : Nat) (pv : Value) (rp : RP) (d : Dk) (w : World) (h : RDisk w rb lb pv rp d) (hd : d.down = false) (ha : d.arm ≠ 0) (hm : d.pend.length < 1000000) :
    Calls Try.prog 47 #[.pointer (some ⟨rb, 0, none⟩)] w fun e w' => e = .returned (.int .i64 0) ∧ RDisk w' rb lb (.slice none 0 0) [] (d.stepped.settled (fun _ => 512)) ∧ (∀ F : Nat → Prop, F rb → F lb → Chg F w w') := by
  have hp5 : d.stepped.pend = d.pend := by unfold Dk.stepped; split <;> (try split) <;> rfl
  obtain ⟨c0, c1, c2, c3, fz⟩ := h.cells
  have S := rfails_any rb lb pv rp d w h
  rw [decide_eq_false ha] at S
  rw [hd] at c3
  have HW : Hid (d.stepped.pend.length < 1000000) := by show _ < _; rw [hp5]; exact hm
  have HK := hid h.ok.stepped
  clear h ha hm hd hp5
  generalize d.stepped = d' at *
  go_enter Try.func47, Try.ntmps47
  go_wp2_with (first
    | (go_at_call 75; with_reducible refine S.mono ?_; rintro e w4 ⟨rfl, P4, C4, S4⟩; have HP4 := hid P4; have HC4 := hid C4; clear P4 C4 S4)
    | fail)
  clear c0 c1 c2 c3 fz S
  go_loopw [3] (fun i wr => ∃ k : Nat, i = .int .i64 (k : Int) ∧ k ≤ d'.pend.length ∧ RDisk wr rb lb pv rp (d'.part (fun _ => 512) k) ∧ (∀ F : Nat → Prop, F rb → F lb → Chg F w wr)) (fun i _ => d'.pend.length - (RowKit.intOf i).toNat)
  case atStart => exact ⟨0, rfl, Nat.zero_le _, HP4.out, fun F f _ => HC4.out F f⟩
  case round =>
    clear HP4 HC4
    obtain ⟨k, rfl, hk, hR, hC⟩ := hrel
    have HR := hid hR
    have HC := hid hC
    by_cases hx : k < d'.pend.length
    · obtain ⟨g2, cap2, m, xg, xc, L, xb, rfl, q1, q2, q3, q4, q5, q6, ⟨e0, e1, e2, e3⟩, HQ, HN⟩ := hR.next HK.out hx (Nat.le_refl _)
      have hkb : (k : Int) < 1000000 := by have := HW.out; omega
      have HS : Hid (wr.cell? ⟨rb, 0, none⟩ = some (.slice (some ⟨lb, 0, none⟩) L L) ∧ wr.cell? ⟨rb, 1, none⟩ = some (.slice (some ⟨g2, 0, none⟩) d'.pend.length cap2) ∧ wr.cell? ⟨g2, k * 2, none⟩ = some (.int .i64 (m : Int)) ∧ wr.cell? ⟨g2, k * 2 + 1, none⟩ = some (.slice (some ⟨xg, 0, none⟩) 512 xc)) := ⟨e0, e1, e2, e3⟩
      have HL := hid (take_min (q := 512) HQ.out.1 (Nat.le_refl _) (show 512 ≤ L - m * 512 by omega))
      have HF : Hid (m * 512 + (bcells (xb.take 512)).length ≤ (bcells (flatL (d'.part (fun _ => 512) k).last d'.pages)).length) := by
        have := take_le (xb := xb) (q := 512) HQ.out.1
        show _ ≤ _
        rw [HQ.out.2.2.2]
        omega
      have HQ3 := hid q3
      have HQ4 := hid q4
      have HQ5 := hid q5
      have HQ6 := hid q6
      clear q2 hR hC q3 q4 q5 q6
      go_wp2
      have hw1 : IntKind.i64.wrap ((m : Int) * 512) = (m : Int) * 512 := by have := HQ5.out; rw [IntKind.wrap_i64]; omega
      have hw2 : (0 : Int) ≤ (m : Int) * 512 := by omega
      have hw3 : (m : Int) * 512 ≤ (L : Int) := by have := HQ3.out; omega
      have hw4 : ((m : Int) * 512).toNat = m * 512 := by omega
      have hw5 : ¬ (L = m * 512) := by have := HQ3.out; omega
      go_region_held_law (fun w' => w'.cell? ⟨rb, 0, none⟩ = some (.slice (some ⟨lb, 0, none⟩) L L) ∧ w'.cell? ⟨rb, 1, none⟩ = some (.slice (some ⟨g2, 0, none⟩) d'.pend.length cap2) ∧ w'.cell? ⟨g2, k * 2, none⟩ = some (.int .i64 (m : Int)) ∧ w'.cell? ⟨g2, k * 2 + 1, none⟩ = some (.slice (some ⟨xg, 0, none⟩) 512 xc)) (first | exact HS.out | exact HS5.out)
        (first
          | (go_loud (refine st_copy rfl _ _ rfl lb (m * 512) _ _ _ _ _ rfl rfl _ 5 HQ.out.2.2.1 (bcells (xb.take 512)) HL.out HQ.out.2.1.src HF.out (bcells_one _) ?_; intro w5 B5 C5 S5; have hn5 := HN.out w5 B5 C5; have HR5 := hid hn5.1; have HS5 := hid hn5.2; have HC5 := hid C5; clear hn5 B5 C5 S5))
          | fail)
      go_wp2
      go_roundw
      case rel => exact ⟨k + 1, by go_num, by omega, HR5.out, fun F f1 f2 => (HC.out F f1 f2).trans (HC5.out F f2).of_drew (fun _ _ f => f)⟩
      case measure => simp [RowKit.intOf]; omega
    · obtain rfl : k = d'.pend.length := by omega
      obtain ⟨c0, c1, c2, c3, fz⟩ := hR.cells
      obtain ⟨pp, pc, rfl, hpc⟩ := own_form hR.pd
      clear hR hC hpc
      change wr.cell? _ = some (.slice pp d'.pend.length pc) at c1
      go_wp2
      go_ret
      exact ⟨rfl, HR.out.done HK.out, fun F f1 f2 => (HC.out F f1 f2).setCell (Or.inl f1) _⟩
end Go.Proofs.Ytnecigbncggogaa
