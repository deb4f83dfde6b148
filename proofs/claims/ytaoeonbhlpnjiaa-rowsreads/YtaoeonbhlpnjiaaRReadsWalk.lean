/- The law RowsReads returns true and writes nothing that was there. Conditions: the bytes lie within the reach. -/
import Derived.Test.YtaoeonbhlpnjiaaRefDecR
import Derived.Test.YtaoeonbhlpnjiaaRowLaws
namespace Go.Proofs.Ytaoeonbhlpnjiaa
open Go.RowKit Go.Lib Go.Sort
set_option linter.unusedVariables false

theorem own_lt {w : World} {base : Nat} {v : Value} {l : List UInt8} (o : OwnB w base v l) : ∀ k, v.ownBlock = some k → k < w.heap.size := fun k h => (o.lt k h).2
theorem own_row {w : World} {base c : Nat} {p : Option Addr} {xs : List Val} (o : OwnV w base (.slice p xs.length c) xs) : Row w p xs := by
  obtain ⟨p', c', hv, r, _⟩ := ownV_slice o
  simp only [Value.slice.injEq, true_and] at hv
  rw [hv.1]
  exact r
theorem rowOf_len (l : List UInt8) : (rowOf (decW l)).length ≤ 2048 := by
  cases h : decW l with
  | ok vs =>
    have := decW_len h
    show vs.length ≤ 2048
    omega
  | error n => exact Nat.zero_le _

set_option maxHeartbeats 8000000 in
theorem rreads_walk (l : List UInt8) (p : Option Addr) (c : Nat) (w : World) (hA : l.length ≤ 140737488351232) (hc : l.length ≤ c) (nX : p = none → l.length = 0 ∧ c = 0) (rB : Byts w p l) :
    Calls Try.prog 4 #[.slice p l.length c] w fun e w' => e = .returned (.bool true) ∧ Below w.heap.size w w' := by
  have HX : Hid (Byts w p l) := rB
  have HnX : Hid (p = none → l.length = 0 ∧ c = 0) := nX
  have hrl := rowOf_len l
  have DA : Hid (∀ p c w, l.length ≤ c → Byts w p l → Calls Try.prog 15 #[.slice p l.length c] w fun e w' => Below w.heap.size w w' ∧ ∃ v, e = .returned (.tuple #[v, .int .i64 (errOf (decW l))]) ∧ OwnV w' w.heap.size v (rowOf (decW l))) := fun p c w h r1 => (decodeW_any p l c w h r1 hA).mono fun e w' h => h.uni
  have DB : Hid (∀ w, Byts w p l → Calls Try.prog 16 #[.slice p l.length c] w fun e w' => Below w.heap.size w w' ∧ ∃ v, e = .returned (.tuple #[v, .int .i64 (errOf (decW l))]) ∧ OwnV w' w.heap.size v (rowOf (decW l))) := fun w r1 => (refDecodeW_any p l c w hc r1 hA).mono fun e w' h => h.uni
  generalize errOf (decW l) = er at *
  generalize rowOf (decW l) = xs at *
  have SR : Hid (∀ (p q : Option Addr) (cp cq : Nat) (w : World), Row w p xs → Row w q xs → Calls Try.prog 14 #[.slice p xs.length cp, .slice q xs.length cq] w fun e w' => e = .returned (.bool true) ∧ Below w.heap.size w w') := fun p q cp cq w r1 r2 => sameRow_refl xs p q cp cq w (by unfold maxLen; omega) r1 r2
  have q1 : (er != er) = false := by simp
  clear nX rB
  go_enter Try.func4, Try.ntmps4
  go_wp2_with (first
    | (at_builtin; refine copyY w _ _ _ p l c rfl rfl rfl rfl rfl HnX.out HX.out hA ?_; intro v1 w1 o1 b1; have O1 := hid o1; have B1 := hid b1; obtain ⟨p1, c1, hv1, r1, _, hm1⟩ := Byts.of_own o1; subst hv1; have R1 := hid r1; have hc1 := own_cap o1; have HG := hid (own_lt o1); clear o1 b1 r1)
    | (go_at_call 15; with_reducible refine (DA.out _ _ _ hc1 R1.out).mono ?_; rintro e w2 ⟨b2, vx, he, ox⟩; subst he; have B2 := hid b2; have OX := hid ox; obtain ⟨px, cx, hvx, rx, _, _⟩ := ownV_slice ox; subst hvx; have BW2 := hid (B1.out.trans (b2.mono B1.out.size)); have HS12 := hid b2.size; clear b2 ox rx)
    | (go_at_call 16; with_reducible refine (DB.out _ (HX.out.below BW2.out)).mono ?_; rintro e w3 ⟨b3, vy, he, oy⟩; subst he; have B3 := hid b3; have OY := hid oy; obtain ⟨py, cy, hvy, ry, _, _⟩ := ownV_slice oy; subst hvy; have BW3 := hid (BW2.out.trans (b3.mono BW2.out.size)); have OX3 := hid (OX.out.below b3); have S3 := SR.out px py cx cy w3 (own_row OX3.out) ry; clear b3 oy ry)
    | (go_at_call 14; with_reducible refine S3.mono ?_; rintro e w4 ⟨rfl, b4⟩; have BW4 := hid (BW3.out.trans (b4.mono BW3.out.size)); have O14 := hid (((O1.out.below B2.out).below B3.out).below b4); have OX4 := hid (OX3.out.below b4); have OY4 := hid (OY.out.below b4); clear b4)
    | fail)
  clear DA DB S3 O1 OX OY OX3 R1
  unfold maxLen at hm1
  by_cases hl0 : l = []
  · subst hl0
    simp only [List.length_nil] at *
    have U := SR.out px py cx cy w4 (own_row OX4.out) (own_row OY4.out)
    clear SR HnX
    go_loopw [8] (fun i wr => i = .int .i64 0 ∧ w4 = wr) (fun _ _ => 0)
    case atStart => exact ⟨rfl, rfl⟩
    case round =>
      obtain ⟨rfl, rfl⟩ := hrel
      go_wp2_with (first
        | (go_at_call 14; with_reducible refine U.mono ?_; rintro e w5 ⟨rfl, b5⟩; have BW5 := hid (BW4.out.trans (b5.mono BW4.out.size)); clear b5)
        | fail)
      go_ret
      exact ⟨rfl, BW5.out⟩
  · obtain ⟨g, cap, hv, hg, hcap, hcells, _⟩ := own_parts O14.out hl0
    simp only [Value.slice.injEq] at hv
    obtain ⟨rfl, _, rfl⟩ := hv
    have hpos : 0 < l.length := List.length_pos_iff.2 hl0
    have hg4 : g < w4.heap.size := cell_lt (hcells 0 hpos).1
    have Hpos : Hid (0 < l.length) := hpos
    have hg1 : g < w1.heap.size := HG.out g rfl
    have hs12 := HS12.out
    clear hcells hpos
    go_loopw [8] (fun i wr => ∃ (k : Nat) (m : List UInt8), k ≤ l.length ∧ i = .int .i64 k ∧ m.length = l.length ∧ OwnB wr w.heap.size (.slice (some ⟨g, 0, none⟩) l.length c1) m ∧ Only g w4 wr) (fun i _ => l.length - (RowKit.intOf i).toNat)
    case atStart => exact ⟨0, l, Nat.zero_le _, rfl, rfl, O14.out, Only.refl _ _⟩
    case round =>
      obtain ⟨k, m, hk, rfl, hm, hO, hN⟩ := hrel
      by_cases hx : k < l.length
      · obtain ⟨g', cap', hv', hg', hcap', hcells, hset⟩ := own_parts hO (fun e => by rw [e] at hm; simp at hm; omega)
        simp only [Value.slice.injEq, Option.some.injEq, Addr.mk.injEq, and_true] at hv'
        obtain ⟨rfl, _, rfl⟩ := hv'
        obtain ⟨d0, f0⟩ := hcells k (by omega)
        have O3 := hset k (m[k]'(by omega) + 1)
        have hgl := cell_lt d0
        have hlt := UInt8.toNat_lt (m[k]'(by omega))
        have hs : ((m[k]'(by omega) + 1).toNat : Int) = ((m[k]'(by omega)).toNat + 1) % 256 := by
          rw [UInt8.toNat_add]
          simp
        generalize m[k]'(by omega) = y at *
        generalize (y + 1).toNat = y' at *
        have HO3 : Hid (OwnB (wr.setCell ⟨g, k, none⟩ (.int .u8 (y' : Int))) w.heap.size (.slice (some ⟨g, 0, none⟩) l.length c1) (m.set k (y + 1))) := O3
        have HN3 : Hid (Only g w4 (wr.setCell ⟨g, k, none⟩ (.int .u8 (y' : Int)))) := hN.trans (only_put _ _ _ _)
        have hml : (m.set k (y + 1)).length = l.length := by rw [List.length_set, hm]
        generalize m.set k (y + 1) = m' at *
        have Hml : Hid (m'.length = l.length) := hml
        have Hkx : Hid (k + 1 ≤ l.length) := by show k + 1 ≤ l.length; omega
        clear hm hml
        clear hcells hset O3 hO hN
        generalize y.toNat = yn at *
        by_cases hy : yn = 255
        · subst hy
          obtain rfl : y' = 0 := by omega
          clear hs hlt
          go_wp2
          go_roundw
          case rel => exact ⟨k + 1, m', Hkx.out, by go_num, Hml.out, HO3.out, HN3.out⟩
          case measure => have := Hkx.out; simp [RowKit.intOf]; omega
        · obtain rfl : y' = yn + 1 := by omega
          clear hs
          go_wp2
          go_roundw
          case rel => exact ⟨k + 1, m', Hkx.out, by go_num, Hml.out, HO3.out, HN3.out⟩
          case measure => have := Hkx.out; simp [RowKit.intOf]; omega
      · obtain rfl : k = l.length := by omega
        have U := SR.out px py cx cy wr (own_row (OX4.out.only hN hg1)) (own_row (OY4.out.only hN (Nat.lt_of_lt_of_le hg1 hs12)))
        have HBE : Hid (Below w.heap.size w wr) := BW4.out.trans ((hN.below (Nat.le_of_lt hg4)).mono hg)
        clear hO hN SR
        go_wp2_with (first
          | (go_at_call 14; with_reducible refine U.mono ?_; rintro e w5 ⟨rfl, b5⟩; have BW5 := hid (HBE.out.trans (b5.mono HBE.out.size)); clear b5)
          | fail)
        go_ret
        exact ⟨rfl, BW5.out⟩
end Go.Proofs.Ytaoeonbhlpnjiaa
