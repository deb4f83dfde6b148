/- What the document's Image, Pending and SameInts do. No conditions. -/
import Derived.Test.YtnecigbncggogaaDkRefHas
namespace Go.Proofs.Ytnecigbncggogaa
open Go.RowKit
set_option linter.unusedVariables false
set_option maxRecDepth 20000

theorem own_is' {w : World} {base : Nat} {v : Value} {l : List UInt8} (o : OwnB w base v l) (hl : 0 < l.length) : ∃ g c, v = .slice (some ⟨g, 0, none⟩) l.length c ∧ base ≤ g ∧ l.length ≤ c ∧ c ≤ maxLen := by
  rcases o.2 with ⟨_, h0⟩ | ⟨g, cap, cur, rfl, hb, hh, hle, hm, _⟩
  · omega
  · exact ⟨g, cap, rfl, hb, hle, hm⟩
theorem own_bts {w : World} {base g n c : Nat} {l : List UInt8} (o : OwnB w base (.slice (some ⟨g, 0, none⟩) n c) l) : Byts w (some ⟨g, 0, none⟩) l := by
  obtain ⟨p, c', e, hb, _⟩ := o.byts
  simp only [Value.slice.injEq] at e
  rw [e.1]
  exact hb
set_option maxHeartbeats 1000000 in
theorem rimage_any (rb lb : Nat) (pv : Value) (rp : RP) (d : Dk) (w : World) (h : RDisk w rb lb pv rp d) (hk : d.pend.length < 1000000) :
    Calls Try.prog 19 #[.pointer (some ⟨rb, 0, none⟩)] w fun e w' => ∃ v, e = .returned v ∧ OwnB w' w.heap.size v d.img ∧ Below w.heap.size w w' := by
  have H := hid h
  have HK := hid hk
  have hok := hid h.ok
  have hpg := h.ok.pages
  have hpb : (d.pages : Int) ≤ 4096 := by omega
  clear h hk
  go_enter Try.func19, Try.ntmps19
  go_wp2
  go_loopw [3, 4] (fun v i wr => ∃ k : Nat, i = .int .i64 (k : Int) ∧ k ≤ d.pages ∧ OwnB wr w.heap.size v (imgTo d k) ∧ Below w.heap.size w wr) (fun _ i _ => d.pages - (RowKit.intOf i).toNat)
  case atStart => exact ⟨0, rfl, Nat.zero_le _, World.ownsRow_nil _ _ _ _, Below.refl _ _⟩
  case round =>
    obtain ⟨k, rfl, hk, hO, hB⟩ := hrel
    have HO := hid hO
    have HB := hid hB
    have P := hid (rpages_any rb lb pv rp d wr (H.out.below hB))
    by_cases hx : k < d.pages
    · have R := hid (rhas_any rb lb pv rp d k wr (H.out.below hB) hx HK.out)
      have HE : Hid ((d.has (k : Int)).length = 512) := hok.out.has _
      have HL : Hid ((imgTo d k).length + (d.has (k : Int)).length ≤ 140737488351232) := by show _ ≤ _; rw [imgTo_len hok.out, HE.out]; omega
      have HN : Hid (imgTo d k ++ d.has (k : Int) = imgTo d (k + 1)) := rfl
      have HZ := hid hB.size
      clear hO hB
      generalize d.has (k : Int) = b at *
      generalize imgTo d k = im at *
      go_wp2_with (first
        | (go_at_call 45; with_reducible refine P.out.mono ?_; rintro e w3 ⟨rfl, hw⟩; subst hw)
        | (go_at_call 56; go_loud ((with_reducible refine R.out.mono ?_); rintro e w4 ⟨v4, rfl, O4, B4⟩; have HB4 := hid B4; have hs4 := own_is' O4 (by rw [HE.out]; omega); obtain ⟨g4, c4, rfl, q1, q2, q3⟩ := hs4; have HX4 := hid (own_bts O4); clear O4 B4 q1 q2 q3))
        | (at_builtin; go_loud (refine appBlk w.heap.size _ _ _ im b rfl rfl rfl _ _ _ _ rfl ?hn ?hO ?hX ?hm ?hl ?hb ?_; (case hn => rfl); (case hO => exact HO.out.below HB4.out); (case hX => exact HX4.out); (case hm => rw [HE.out]; omega); (case hl => exact HL.out); (case hb => exact Nat.le_trans HZ.out HB4.out.size); intro v' w' O' G' A'; have HO' := hid O'; have HG' := hid G'; clear O' G' A'; try go_frame))
        | fail)
      go_roundw
      case rel => exact ⟨k + 1, by go_num, by omega, by rw [← HN.out]; exact HO'.out, below_own (HB.out.trans (HB4.out.mono HZ.out)) HG'.out (Nat.le_trans HZ.out HB4.out.size) (fun j hj => (World.ownsRow.lt HO.out j hj).1)⟩
      case measure => simp [RowKit.intOf]; omega
    · obtain rfl : k = d.pages := by omega
      clear hO hB
      go_wp2_with (first
        | (go_at_call 45; with_reducible refine P.out.mono ?_; rintro e w3 ⟨rfl, hw⟩; subst hw)
        | fail)
      go_ret
      exact ⟨_, rfl, HO.out, HB.out⟩
/-- A row of numbers that the call owns. -/
def OwnI (w : World) (base : Nat) (v : Value) (l : List Int) : Prop := w.ownsRow base 3 1 v l.length (icells l)
theorem icells_one (l : List Int) : ∀ u ∈ icells l, u.oneCell' = true := by
  intro u hu
  obtain ⟨b, _, rfl⟩ := List.mem_map.1 hu
  rfl
/-- append(s, n) of owned numbers. -/
theorem appI {ops : Array Oper} {rest : List Oper} {o : Oper} {a : Act} {w : World} {Q : Exit → Act → World → Prop} (base : Nat) (s x : Operand) (v : Value) (l : List Int) (n : Int) (hgd : o.guard = none)
    (ho : o.op = .call { callee := .builtin .append, args := #[s, x], argTypes := #[57, 57] }) (hs : a.eval s = v) (g : Nat) (cx : Nat) (hx : a.eval x = .slice (some ⟨g, 0, none⟩) 1 cx)
    (O : OwnI w base v l) (X : w.cell? ⟨g, 0, none⟩ = some (.int .i64 n)) (hl : l.length < 1000000) (hb : base ≤ w.heap.size)
    (h : ∀ v' w', OwnI w' base v' (l ++ [n]) → w.grownBy w' v.ownBlock → wpList Try.prog ops Q rest (a.put o.dst v') w') :
    wpList Try.prog ops Q (o :: rest) a w := by
  obtain ⟨i0, hi, hz0, hz1, hz2⟩ := info_parts infoInt
  refine wpList_append_lies _ hgd s x 57 ho base 3 i0 (.int .i64 0) 1 8 Try.underlying57 hi hz0 hz1 hz2 rfl (by decide) v _ _ hs O ⟨g, 0, none⟩ 1 cx (icells [n]) hx rfl (fun j u hu => ?_) (icells_one _) (by decide) (by unfold maxLen; omega) (by omega) hb _ rfl ?_
  · match j, hu with
    | 0, hu =>
      simp only [icells, List.map_cons, List.map_nil, List.getElem?_cons_zero, Option.some.injEq] at hu
      rw [← hu]
      exact X
  · intro g' cap' w3 hown hgrow hat hlt
    refine h _ w3 ?_ hgrow
    unfold OwnI
    have e : icells (l ++ [n]) = icells l ++ icells [n] := by simp [icells]
    rw [List.length_append, e]
    exact hown
theorem below_dn {B : Nat} {a w : World} (h : Below B a w) (n : Nat) : Below B a (w.drewN n) := h.trans ⟨rfl, rfl, rfl, Nat.le_refl _, fun _ _ => rfl⟩
/-- A slice of numbers in memory. -/
def Ints (w : World) (p : Option Addr) (l : List Int) : Prop := l = [] ∨ ∃ b off, p = some ⟨b, off, none⟩ ∧ ∀ i (h : i < l.length), w.cell? ⟨b, off + i, none⟩ = some (.int .i64 l[i])
theorem OwnI.ints {w : World} {base : Nat} {v : Value} {l : List Int} (o : OwnI w base v l) : ∃ p c, v = .slice p l.length c ∧ Ints w p l := by
  obtain ⟨h1, h2⟩ := o
  rcases h2 with ⟨rfl, h0⟩ | ⟨g, cap, cur, rfl, hg, hh, hle, hm, hs, ht⟩
  · exact ⟨none, 0, by rw [h0], Or.inl (List.length_eq_zero_iff.1 h0)⟩
  · refine ⟨_, cap, rfl, Or.inr ⟨g, 0, rfl, fun i hi => ?_⟩⟩
    have hu := icells_at hi
    rw [← ht, List.getElem?_take, if_pos (by omega), Array.getElem?_toList] at hu
    simp [World.cell?, hh, hu]
theorem Blk.ints {w : World} {g : Nat} {l : List Int} {t : TypeId} (h : Blk w g (icells l) t) : Ints w (some ⟨g, 0, none⟩) l :=
  Or.inr ⟨g, 0, rfl, fun i hi => by rw [Nat.zero_add, h.cell i]; exact icells_at hi⟩
theorem Ints.below {w w' : World} {p : Option Addr} {l : List Int} (h : Ints w p l) (B : Below w.heap.size w w') : Ints w' p l := by
  rcases h with h | ⟨b, off, hp, hc⟩
  · exact Or.inl h
  · exact Or.inr ⟨b, off, hp, fun i hi => (World.cell?_of_block (w := w) (a := ⟨b, off + i, none⟩) (B.block b (cell_lt (hc i hi)))).trans (hc i hi)⟩
end Go.Proofs.Ytnecigbncggogaa
