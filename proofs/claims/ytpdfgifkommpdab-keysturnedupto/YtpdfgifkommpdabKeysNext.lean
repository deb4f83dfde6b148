/- What keys.Next answers, and the document's own. Condition: the bytes lie within the reach. -/
import Derived.Test.YtpdfgifkommpdabKeysCopy
import Derived.Deep.CutRange
import Derived.Lib.SliceRun
namespace Go.Proofs.Ytpdfgifkommpdab
open Go.RowKit Go.Lib Go.Sort
set_option linter.unusedVariables false

/-- The next bytes, from behind. -/
def nextR : List UInt8 → List UInt8
  | [] => []
  | c :: l => if c = 255 then nextR l else (c + 1) :: l
/-- The next bytes; none, if all are 255. -/
def nextB (l : List UInt8) : List UInt8 := (nextR l.reverse).reverse

theorem take_rev {l : List UInt8} {k : Nat} (h : k < l.length) : (l.take (k + 1)).reverse = l[k] :: (l.take k).reverse := by
  rw [List.take_succ_eq_append_getElem h, List.reverse_append]
  rfl
theorem nextR_step {l : List UInt8} {k : Nat} (h : k < l.length) (hc : l[k] = 255) : nextR (l.take (k + 1)).reverse = nextR (l.take k).reverse := by
  rw [take_rev h]
  simp [nextR, hc]
theorem nextR_here {l : List UInt8} {k : Nat} (h : k < l.length) (hc : l[k] ≠ 255) : (nextR (l.take (k + 1)).reverse).reverse = (l.take (k + 1)).set k (l[k] + 1) := by
  rw [take_rev h]
  simp only [nextR, if_neg hc, List.reverse_cons, List.reverse_reverse]
  rw [List.take_succ_eq_append_getElem h, List.set_append_right _ _ (by simp; omega)]
  simp [List.length_take, Nat.min_eq_left (Nat.le_of_lt h)]

theorem own_cap {w : World} {base : Nat} {p : Option Addr} {n c : Nat} {l : List UInt8} (o : OwnB w base (.slice p n c) l) : l.length ≤ c := by
  obtain ⟨_, h2⟩ := o
  rcases h2 with ⟨h0, hn⟩ | ⟨g, cap, cur, hg, _, _, hle, _⟩
  · omega
  · simp only [Value.slice.injEq] at hg
    omega
/-- Owned bytes, looked into. -/
theorem own_parts {w : World} {base : Nat} {v : Value} {l : List UInt8} (o : OwnB w base v l) (hl : l ≠ []) :
    ∃ g cap, v = .slice (some ⟨g, 0, none⟩) l.length cap ∧ base ≤ g ∧ l.length ≤ cap ∧ (∀ i (h : i < l.length), w.cell? ⟨g, i, none⟩ = some (.int .u8 (l[i].toNat : Int)) ∧ w.frozen? ⟨g, i, none⟩ = false) ∧
      (∀ i c, OwnB (w.setCell ⟨g, i, none⟩ (.int .u8 (c.toNat : Int))) base v (l.set i c)) := by
  obtain ⟨h1, h2⟩ := o
  rcases h2 with ⟨_, h0⟩ | ⟨g, cap, cur, rfl, hg, hh, hle, hm, hs, ht⟩
  · exact absurd (List.length_eq_zero_iff.1 h0) hl
  · refine ⟨g, cap, rfl, hg, hle, fun i hi => ⟨?_, ?_⟩, fun i c => ?_⟩
    · have hu : (bcells l)[i]? = some (.int .u8 l[i].toNat) := by simp [bcells, hi]
      rw [← ht, List.getElem?_take, if_pos (by omega), Array.getElem?_toList] at hu
      simp [World.cell?, hh, hu]
    · simp [World.frozen?, hh]
    · have hlen : (l.set i c).length = l.length := List.length_set
      refine ⟨by simp [bcells], Or.inr ⟨g, cap, _, by rw [hlen], hg, heap_setCell_same w g i cur 5 _ hh, by rw [hlen]; exact hle, hm, by simpa using hs, ?_⟩⟩
      rw [hlen, Array.toList_setIfInBounds, List.take_set, ht]
      simp [bcells, List.map_set]

/-- What Next answers. -/
def nextEnd (l : List UInt8) (w : World) (e : Ending) (w' : World) : Prop :=
  Below w.heap.size w w' ∧ ((nextB l = [] ∧ e = .returned (.tuple #[.slice none 0 0, .bool false])) ∨ (nextB l ≠ [] ∧ ∃ v, e = .returned (.tuple #[v, .bool true]) ∧ OwnB w' w.heap.size v (nextB l)))

set_option maxHeartbeats 1000000 in
theorem clone_any (b off : Nat) (l : List UInt8) (c : Nat) (w : World) (hl : l.length ≤ 140737488351232) (rB : Byts w (some ⟨b, off, none⟩) l) :
    Calls Try.prog 17 #[.slice (some ⟨b, off, none⟩) l.length c] w fun e w' => ∃ v, e = .returned v ∧ OwnB w' w.heap.size v l ∧ Below w.heap.size w w' := by
  have hnil : (binOp .eql 27 (.slice (some ⟨b, off, none⟩) l.length c) (.slice none 0 0)).run Try.prog w = .ok (.bool false) w := run_eql_slice_nil w _ _ _ _ _ _ _ Try.underlying27
  go_enter Try.func17, Try.ntmps17
  go_wp2_with (at_builtin; refine copyY w _ _ _ _ l c rfl rfl rfl rfl rfl (fun h => by cases h) rB hl ?_; intro v' w' O' B')
  go_wp2
  go_ret
  exact ⟨_, rfl, O', B'⟩

theorem Byts.take {w : World} {p : Option Addr} {l : List UInt8} (h : Byts w p l) (k : Nat) : Byts w p (l.take k) := by
  rcases h with h | ⟨b, off, hp, hc⟩
  · left; rw [h]; simp
  · refine Or.inr ⟨b, off, hp, fun i hi => ?_⟩
    have hi' : i < l.length := by simp at hi; omega
    rw [List.getElem_take]
    exact hc i hi'

set_option maxHeartbeats 4000000 in
theorem next_any (p : Option Addr) (l : List UInt8) (c : Nat) (w : World) (hl : l.length ≤ 140737488351232) (hc : l.length ≤ c) (rB : Byts w p l) :
    Calls Try.prog 9 #[.slice p l.length c] w (nextEnd l w) := by
  have HB : Hid (Byts w p l) := rB
  clear rB
  go_enter Try.func9, Try.ntmps9
  go_wp2
  go_loopw [4] (fun i wr => ∃ k : Nat, k ≤ l.length ∧ i = .int .i64 k ∧ nextR l.reverse = nextR (l.take k).reverse ∧ w = wr) (fun i _ => (RowKit.intOf i).toNat)
  case atStart => exact ⟨l.length, Nat.le_refl _, rfl, by rw [List.take_length], rfl⟩
  case round =>
    obtain ⟨k, hk, rfl, hN, rfl⟩ := hrel
    have HN : Hid (nextR l.reverse = nextR (l.take k).reverse) := hN
    clear hN
    cases k with
    | zero =>
      have HE : Hid (nextB l = []) := by
        show (nextR l.reverse).reverse = []
        rw [HN.out]; rfl
      clear HN
      go_wp2
      go_returns
      exact ⟨Below.refl _ _, Or.inl ⟨HE.out, rfl⟩⟩
    | succ k =>
      have hk' : k < l.length := by omega
      obtain ⟨b, off, rfl, c0⟩ := HB.out.at hk'
      have hlt := UInt8.toNat_lt l[k]
      by_cases hx : l[k] = 255
      · have HS : Hid (nextR l.reverse = nextR (l.take k).reverse) := HN.out.trans (nextR_step hk' hx)
        have hz : l[k].toNat = 255 := by rw [hx]; rfl
        rw [hz] at c0
        clear hz HN hx hlt
        go_wp2
        go_roundw
        case rel => exact ⟨k, by omega, by go_num, HS.out, by first | rfl | trivial⟩
        case measure => simp [RowKit.intOf]
      · have HE : Hid (nextB l = (l.take (k + 1)).set k (l[k] + 1)) := by
          show (nextR l.reverse).reverse = _
          rw [HN.out]
          exact nextR_here hk' hx
        have hz : l[k].toNat ≠ 255 := fun e => hx (UInt8.toNat_inj.1 e)
        have hz2 : (((l[k].toNat : Int)) == 255) = false := beq_eq_false_iff_ne.2 (by omega)
        have hs : ((l[k] + 1).toNat : Int) = (l[k].toNat : Int) + 1 := by
          rw [UInt8.toNat_add]
          simp
          omega
        have hlen : (l.take (k + 1)).length = k + 1 := by simp; omega
        have CL := fun W c (r : Byts W (some ⟨b, off, none⟩) (l.take (k + 1))) => clone_any b off (l.take (k + 1)) c W (by omega) r
        simp only [hlen] at CL
        have hget : ∀ h, (l.take (k + 1))[k]'h = l[k] := by intro h; simp
        have C2 := fun c => CL w c (HB.out.take _)
        clear CL HN hx
        generalize hpre : l.take (k + 1) = pre at *
        generalize hy : l[k] = y at *
        have hne : pre ≠ [] := fun e => by rw [e] at hlen; simp at hlen
        go_upto_region 7 with (first
          | (go_at_call 17; with_reducible refine (C2 _).mono ?_; rintro e w2 ⟨v, rfl, O2, B2⟩)
          | fail)
        obtain ⟨g, cap, rfl, hg, hcap, hcells, hset⟩ := own_parts O2 hne
        obtain ⟨d0, f0⟩ := hcells k (by omega)
        rw [hget] at d0
        have O3 := hset k (y + 1)
        have hgl := cell_lt d0
        have B3 : Below w.heap.size w (w2.setCell ⟨g, k, none⟩ (.int .u8 ((y + 1).toNat : Int))) := B2.setCell hg _
        rw [hs] at O3 B3
        rw [hlen] at O3
        have HO3 : Hid (OwnB (w2.setCell ⟨g, k, none⟩ (.int .u8 ((y.toNat : Int) + 1))) w.heap.size (.slice (some ⟨g, 0, none⟩) (k + 1) cap) (pre.set k (y + 1))) := O3
        have HB3 : Hid (Below w.heap.size w (w2.setCell ⟨g, k, none⟩ (.int .u8 ((y.toNat : Int) + 1)))) := B3
        clear O2 B2 O3 B3 hcells hset C2
        rw [hlen]
        go_wp2
        go_returns
        refine ⟨HB3.out, Or.inr ⟨?_, _, rfl, ?_⟩⟩
        · rw [HE.out]
          intro e
          have := congrArg List.length e
          simp [hlen] at this
        · rw [HE.out]
          exact HO3.out
end Go.Proofs.Ytpdfgifkommpdab
