/- The law KeysReads returns true and writes nothing that was there. Conditions: the bytes and the turned places are at most 1048576. -/
import Derived.Test.YtpdfgifkommpdaaKeysRefDec
import Derived.Test.YtpdfgifkommpdaaKeysCopy
namespace Go.Proofs.Ytpdfgifkommpdaa
open Go.RowKit Go.Lib Go.Sort
set_option linter.unusedVariables false

def rowOf : Except Int (List Val) → List Val
  | .ok vs => vs
  | .error _ => []
def errOf : Except Int (List Val) → Int
  | .ok _ => 0
  | .error n => n
theorem decEnd.uni {x : Except Int (List Val)} {w w' : World} {e : Ending} (h : decEnd x w e w') : Below w.heap.size w w' ∧ ∃ v, e = .returned (.tuple #[v, .int .i64 (errOf x)]) ∧ OwnV w' w.heap.size v (rowOf x) := by
  obtain ⟨B, h⟩ := h
  cases x with
  | ok vs => exact ⟨B, h⟩
  | error n => exact ⟨B, _, h, ownV_nil _ _⟩
def someB (l : List UInt8) : Bool := !l.isEmpty
theorem nextEnd.uni {l : List UInt8} {w w' : World} {e : Ending} (h : nextEnd l w e w') : Below w.heap.size w w' ∧ ∃ v, e = .returned (.tuple #[v, .bool (someB (nextB l))]) ∧ OwnB w' w.heap.size v (nextB l) := by
  obtain ⟨B, ⟨h0, rfl⟩ | ⟨h0, v, rfl, o⟩⟩ := h
  · rw [h0]
    exact ⟨B, _, rfl, own_nil _ _⟩
  · refine ⟨B, v, ?_, o⟩
    have : someB (nextB l) = true := by
      cases hn : nextB l with
      | nil => exact absurd hn h0
      | cons a b => rfl
    rw [this]
theorem decR_len : ∀ (n : Nat) (l : List UInt8) (ds : List Bool) (vs : List Val), decR n l ds = .ok vs → vs.length ≤ l.length
  | n, [], ds, vs, h => by
    have : decR n [] ds = .ok [] := by cases n <;> rfl
    rw [this] at h
    cases h
    exact Nat.le_refl _
  | 0, c :: l, ds, vs, h => by cases h
  | n + 1, c :: l, ds, vs, h => by
    unfold decR at h
    cases hv : valD ((c :: l).map (tb (ds.headD false))) with
    | error e => rw [hv] at h; cases h
    | ok x =>
      obtain ⟨v, r⟩ := x
      rw [hv] at h
      simp only [] at h
      obtain ⟨k, e1, e2, e3, _⟩ := valD_rest _ _ _ hv
      have hr : r.length ≤ l.length := by rw [e1]; simp; omega
      cases hx : decR n (r.map (tb (ds.headD false))) ds.tail with
      | error e => rw [hx] at h; cases h
      | ok ws =>
        rw [hx] at h
        have := decR_len n _ _ ws hx
        cases h
        simp at this ⊢
        omega
theorem rowOf_len (l : List UInt8) (ds : List Bool) : (rowOf (decL l ds)).length ≤ l.length := by
  cases h : decL l ds with
  | ok vs => exact decR_len _ _ _ _ h
  | error n => exact Nat.zero_le _

set_option maxHeartbeats 8000000 in
theorem reads_walk (l : List UInt8) (ds : List Bool) (p q : Option Addr) (c d : Nat) (w : World) (hA : l.length ≤ 1048576) (hD : ds.length ≤ 1048576) (hc : l.length ≤ c) (nX : p = none → l.length = 0 ∧ c = 0) (rB : Byts w p l) (rD : Bits w q ds) :
    Calls Try.prog 4 #[.slice p l.length c, .slice q ds.length d] w fun e w' => e = .returned (.bool true) ∧ Below w.heap.size w w' := by
  have hL2 : ds.length ≤ maxLen := by unfold maxLen; omega
  have HX : Hid (Byts w p l) := rB
  have HD : Hid (Bits w q ds) := rD
  have HnX : Hid (p = none → l.length = 0 ∧ c = 0) := nX
  have hrl := rowOf_len l ds
  have DA : Hid (∀ p c w, l.length ≤ c → Byts w p l → Bits w q ds → Calls Try.prog 12 #[.slice p l.length c, .slice q ds.length d] w fun e w' => Below w.heap.size w w' ∧ ∃ v, e = .returned (.tuple #[v, .int .i64 (errOf (decL l ds))]) ∧ OwnV w' w.heap.size v (rowOf (decL l ds))) := fun p c w h r1 r2 => (decode_any p q l ds c d w h r1 r2 hL2 (by omega)).mono fun e w' h => h.uni
  have DB : Hid (∀ w, Byts w p l → Bits w q ds → Calls Try.prog 13 #[.slice p l.length c, .slice q ds.length d] w fun e w' => Below w.heap.size w w' ∧ ∃ v, e = .returned (.tuple #[v, .int .i64 (errOf (decL l ds))]) ∧ OwnV w' w.heap.size v (rowOf (decL l ds))) := fun w r1 r2 => (refDecode_any p q l ds c d w hc r1 r2 hL2 (by omega)).mono fun e w' h => h.uni
  have NA : Hid (∀ p c w, l.length ≤ c → Byts w p l → Calls Try.prog 14 #[.slice p l.length c] w fun e w' => Below w.heap.size w w' ∧ ∃ v, e = .returned (.tuple #[v, .bool (someB (nextB l))]) ∧ OwnB w' w.heap.size v (nextB l)) := fun p c w h r1 => (next_any p l c w (by omega) h r1).mono fun e w' h => h.uni
  have NB : Hid (∀ w, Byts w p l → Calls Try.prog 15 #[.slice p l.length c] w fun e w' => Below w.heap.size w w' ∧ ∃ v, e = .returned (.tuple #[v, .bool (someB (nextB l))]) ∧ OwnB w' w.heap.size v (nextB l)) := fun w r1 => (refNext_any p l c w (by omega) hc r1).mono fun e w' h => h.uni
  generalize errOf (decL l ds) = er at *
  generalize rowOf (decL l ds) = xs at *
  generalize nextB l = nx at *
  have SR : Hid (∀ (p q : Option Addr) (cp cq : Nat) (w : World), Row w p xs → Row w q xs → Calls Try.prog 11 #[.slice p xs.length cp, .slice q xs.length cq] w fun e w' => e = .returned (.bool true) ∧ Below w.heap.size w w') := fun p q cp cq w r1 r2 => sameRow_refl xs p q cp cq w (by unfold maxLen; omega) r1 r2
  generalize someB nx = sb at *
  have q1 : (er != er) = false := by simp
  have q2 : (sb != sb) = false := by simp
  clear nX rB rD hL2
  go_enter Try.func4, Try.ntmps4
  go_wp2_with (first
    | (at_builtin; refine copyY w _ _ _ p l c rfl rfl rfl rfl rfl HnX.out HX.out (by omega) ?_; intro v1 w1 o1 b1; have O1 := hid o1; have B1 := hid b1; obtain ⟨p1, c1, hv1, r1, _, _⟩ := Byts.of_own o1; subst hv1; have R1 := hid r1; have hc1 := own_cap o1; clear o1 b1 r1)
    | (go_at_call 12; with_reducible refine (DA.out _ _ _ hc1 R1.out (HD.out.below B1.out)).mono ?_; rintro e w2 ⟨b2, vx, he, ox⟩; subst he; have B2 := hid b2; obtain ⟨px, cx, hvx, rx, _, _⟩ := ownV_slice ox; subst hvx; have RX := hid rx; have BW2 := hid (B1.out.trans (b2.mono B1.out.size)); clear b2 ox rx)
    | (go_at_call 13; with_reducible refine (DB.out _ (HX.out.below BW2.out) (HD.out.below BW2.out)).mono ?_; rintro e w3 ⟨b3, vy, he, oy⟩; subst he; have B3 := hid b3; obtain ⟨py, cy, hvy, ry, _, _⟩ := ownV_slice oy; subst hvy; have RY := hid ry; have BW3 := hid (BW2.out.trans (b3.mono BW2.out.size)); have R13 := hid ((R1.out.below B2.out).below b3); clear b3 oy ry)
    | (go_at_call 14; with_reducible refine (NA.out _ _ _ hc1 R13.out).mono ?_; rintro e w4 ⟨b4, vu, he, ou⟩; subst he; have B4 := hid b4; obtain ⟨pu, cu, hvu, ru, _, hmu⟩ := Byts.of_own ou; subst hvu; have OU := hid ou; have BW4 := hid (BW3.out.trans (b4.mono BW3.out.size)); clear b4 ou ru)
    | (go_at_call 15; with_reducible refine (NB.out _ (HX.out.below BW4.out)).mono ?_; rintro e w5 ⟨b5, vv, he, ov⟩; subst he; have B5 := hid b5; have BW5 := hid (BW4.out.trans (b5.mono BW4.out.size)); have hcv := conv_own (OU.out.below b5); have hcw := conv_own ov; have S5 := SR.out px py cx cy w5 (((RX.out.below B3.out).below B4.out).below b5) ((RY.out.below B4.out).below b5); have OV := hid ov; clear b5 ov)
    | (go_at_call 11; with_reducible refine S5.mono ?_; rintro e w6 ⟨rfl, b6⟩; have B6 := hid b6; have OU6 := hid ((OU.out.below B5.out).below b6); have hcv6 := conv_own OU6.out; have hcw6 := conv_own (OV.out.below b6); have B36 := hid ((B4.out.trans (B5.out.mono B4.out.size)).trans (b6.mono (Nat.le_trans B4.out.size B5.out.size))); have BW6 := hid (BW5.out.trans (b6.mono BW5.out.size)); clear b6)
    | fail)
  clear S5 hcv hcw hcv6 hcw6 DA DB NA NB SR
  unfold maxLen at hmu
  go_loopw [14] (fun i wr => ∃ (k : Nat) (m : List UInt8), k ≤ nx.length ∧ i = .int .i64 k ∧ m.length = nx.length ∧ OwnB wr w3.heap.size (.slice pu nx.length cu) m ∧ Below w3.heap.size w3 wr) (fun i _ => nx.length - (RowKit.intOf i).toNat)
  case atStart => exact ⟨0, nx, Nat.zero_le _, rfl, rfl, OU6.out, B36.out⟩
  case round =>
    obtain ⟨k, m, hk, rfl, hm, hO, hB⟩ := hrel
    by_cases hx : k < nx.length
    · obtain ⟨g, cap, hv, hg, hcap, hcells, hset⟩ := own_parts hO (fun e => by rw [e] at hm; simp at hm; omega)
      simp only [Value.slice.injEq] at hv
      obtain ⟨rfl, _, rfl⟩ := hv
      obtain ⟨d0, f0⟩ := hcells k (by omega)
      have O3 := hset k (m[k]'(by omega) + 1)
      have hgl := cell_lt d0
      have hlt := UInt8.toNat_lt (m[k]'(by omega))
      have hs : ((m[k]'(by omega) + 1).toNat : Int) = ((m[k]'(by omega)).toNat + 1) % 256 := by
        rw [UInt8.toNat_add]
        simp
      generalize m[k]'(by omega) = y at *
      generalize (y + 1).toNat = y' at *
      have HO3 : Hid (OwnB (wr.setCell ⟨g, k, none⟩ (.int .u8 (y' : Int))) w3.heap.size (.slice (some ⟨g, 0, none⟩) nx.length cu) (m.set k (y + 1))) := O3
      have HB3 : Hid (Below w3.heap.size w3 (wr.setCell ⟨g, k, none⟩ (.int .u8 (y' : Int)))) := hB.setCell hg _
      have hml : (m.set k (y + 1)).length = nx.length := by rw [List.length_set, hm]
      generalize m.set k (y + 1) = m' at *
      have Hml : Hid (m'.length = nx.length) := hml
      have Hkx : Hid (k + 1 ≤ nx.length) := by show k + 1 ≤ nx.length; omega
      clear hm hml
      clear hcells hset O3 hO hB
      generalize y.toNat = yn at *
      by_cases hy : yn = 255
      · subst hy
        obtain rfl : y' = 0 := by omega
        clear hs hlt
        go_wp2
        go_roundw
        case rel => exact ⟨k + 1, m', Hkx.out, by go_num, Hml.out, HO3.out, HB3.out⟩
        case measure => have := Hkx.out; simp [RowKit.intOf]; omega
      · obtain rfl : y' = yn + 1 := by omega
        clear hs
        go_wp2
        go_roundw
        case rel => exact ⟨k + 1, m', Hkx.out, by go_num, Hml.out, HO3.out, HB3.out⟩
        case measure => have := Hkx.out; simp [RowKit.intOf]; omega
    · obtain rfl : k = nx.length := by omega
      have BE := BW3.out.trans (hB.mono BW3.out.size)
      have hca := conv_byts c1 (R13.out.below hB)
      have hcb := conv_byts c (HX.out.below BE)
      have HBE : Hid (Below w.heap.size w wr) := BE
      clear hO hB BE
      go_wp2
      go_ret
      exact ⟨rfl, HBE.out⟩
end Go.Proofs.Ytpdfgifkommpdaa
