/- What the document's Mend does; the document's Sync and Mend over a set of blocks. Condition: fewer than a million writes are pending. -/
import Derived.Test.YtnecigbncggogaaDkRefSync
import Derived.Test.YtnecigbncggogaaDkMore
namespace Go.Proofs.Ytnecigbncggogaa
open Go.RowKit
set_option linter.unusedVariables false
set_option maxRecDepth 20000

theorem part_skip {d : Dk} {c : Nat → Nat} {k : Nat} (hk : k < d.pend.length) (hc : c k = 0) : d.part c (k + 1) = d.part c k := by
  unfold Dk.part
  rw [settleIn_take c d.pend d.last k hk, hc, List.take_zero, over_nil]
  congr 1
  funext j
  unfold putP
  split
  · rename_i e; rw [e]
  · rfl
theorem keeps_torn (keep : List Bool) (cut : Int) (k : Nat) : keeps keep (k : Int) cut k = (min (max cut 0) 512).toNat := by unfold keeps; rw [if_pos rfl]
theorem keeps_yes {keep : List Bool} {torn cut : Int} {k : Nat} (h : ¬ (k : Int) = torn) (hk : k < keep.length) (hb : keep[k] = true) : keeps keep torn cut k = 512 := by
  unfold keeps
  rw [if_neg h, if_pos (by rw [List.getD_eq_getElem?_getD, List.getElem?_eq_getElem hk, hb]; rfl)]
theorem keeps_no {keep : List Bool} {torn cut : Int} {k : Nat} (h : ¬ (k : Int) = torn) (hb : keep.getD k false = false) : keeps keep torn cut k = 0 := by
  unfold keeps
  rw [if_neg h, if_neg (by rw [hb]; simp)]
set_option maxRecDepth 20000 in
set_option maxHeartbeats 4000000 in
theorem rmend_any (rb lb : Nat) (pv : Value) (rp : RP) (d : Dk) (kp : Option Addr) (keep : List Bool) (kc : Nat) (torn cut : Int) (w : World) (h : RDisk w rb lb pv rp d) (hm : d.pend.length < 1000000) (hk : Bits w kp keep) (hkl : keep ≠ [] → ∀ b off, kp = some ⟨b, off, none⟩ → b ≠ lb) (hkc : keep.length ≤ kc) :
    Calls Try.prog 49 #[.pointer (some ⟨rb, 0, none⟩), .slice kp keep.length kc, .int .i64 torn, .int .i64 cut] w fun e w' => e = .returned (.tuple #[]) ∧ RDisk w' rb lb (.slice none 0 0) [] (d.mended keep torn cut) ∧ (∀ F : Nat → Prop, F rb → F lb → Chg F w w') := by
  have HW := hid hm
  have HK := hid h.ok
  have HH := hid h
  have HBt : Hid (∀ wr : World, (∀ F : Nat → Prop, F lb → Chg F w wr) → Bits wr kp keep) := fun wr C => by
    rcases hk with hk | ⟨b, off, hp, hc⟩
    · exact Or.inl hk
    · by_cases he : keep = []
      · exact Or.inl he
      · exact Or.inr ⟨b, off, hp, fun i hi => (C (· = lb) rfl).cell (hc i hi) (hkl he b off hp)⟩
  clear h hm hk hkl
  go_enter Try.func49, Try.ntmps49
  go_wp2
  go_loopw [8] (fun i wr => ∃ k : Nat, i = .int .i64 (k : Int) ∧ k ≤ d.pend.length ∧ RDisk wr rb lb pv rp (d.part (keeps keep torn cut) k) ∧ (∀ F : Nat → Prop, F lb → Chg F w wr)) (fun i _ => d.pend.length - (RowKit.intOf i).toNat)
  case atStart => exact ⟨0, rfl, Nat.zero_le _, HH.out, fun F _ => Chg.refl F w⟩
  case round =>
    clear HH
    obtain ⟨k, rfl, hk, hR, hC⟩ := hrel
    have HR := hid hR
    have HC := hid hC
    by_cases hx : k < d.pend.length
    · by_cases ht : (k : Int) = torn
      · subst ht
        clear HBt
        by_cases hc1 : cut ≤ 0
        · have hck : keeps keep (k : Int) cut k = 0 := by rw [keeps_torn]; omega
          obtain ⟨g2, cap2, m, xg, xc, L, xb, rfl, q1, q2, q3, q4, q5, q6, ⟨e0, e1, e2, e3⟩, HQ, HN⟩ := hR.next HK.out hx (keeps_le _ _ _ _)
          rw [hck] at HQ HN
          have hkb : (k : Int) < 1000000 := by have := HW.out; omega
          have HS : Hid (wr.cell? ⟨rb, 0, none⟩ = some (.slice (some ⟨lb, 0, none⟩) L L) ∧ wr.cell? ⟨rb, 1, none⟩ = some (.slice (some ⟨g2, 0, none⟩) d.pend.length cap2) ∧ wr.cell? ⟨g2, k * 2, none⟩ = some (.int .i64 (m : Int)) ∧ wr.cell? ⟨g2, k * 2 + 1, none⟩ = some (.slice (some ⟨xg, 0, none⟩) 512 xc)) := ⟨e0, e1, e2, e3⟩
          have HL := hid (take_min (xb := xb) (q := 0) HQ.out.1 (by omega) (show 512 ≤ L - m * 512 by omega))
          have HF : Hid (m * 512 + (bcells (xb.take 0)).length ≤ (bcells (flatL (d.part (keeps keep (k : Int) cut) k).last d.pages)).length) := by
            have := take_le (xb := xb) (q := 0) HQ.out.1
            show _ ≤ _
            rw [HQ.out.2.2.2]
            omega
          have HQ3 := hid q3
          have HQ5 := hid q5
          have HQ6 := hid q6
          clear q2 hR hC q3 q4 q5 q6 hck
          go_wp2
          have hw1 : IntKind.i64.wrap ((m : Int) * 512) = (m : Int) * 512 := by have := HQ5.out; rw [IntKind.wrap_i64]; omega
          have hw2 : (0 : Int) ≤ (m : Int) * 512 := by omega
          have hw3 : (m : Int) * 512 ≤ (L : Int) := by have := HQ3.out; omega
          have hw4 : ((m : Int) * 512).toNat = m * 512 := by omega
          have hw5 : ¬ (L = m * 512) := by have := HQ3.out; omega
          have hw6 : (512 : Int) ≤ (xc : Int) := by have := HQ6.out; omega
          have hw7 : ¬ (xc = 0) := by have := HQ6.out; omega
          have hc3 : ¬ (512 : Int) < cut := by omega
          have hc4 : ¬ (0 : Int) < cut := by omega
          go_region_held_law (fun w' => w'.cell? ⟨rb, 0, none⟩ = some (.slice (some ⟨lb, 0, none⟩) L L) ∧ w'.cell? ⟨rb, 1, none⟩ = some (.slice (some ⟨g2, 0, none⟩) d.pend.length cap2) ∧ w'.cell? ⟨g2, k * 2, none⟩ = some (.int .i64 (m : Int)) ∧ w'.cell? ⟨g2, k * 2 + 1, none⟩ = some (.slice (some ⟨xg, 0, none⟩) 512 xc)) (first | exact HS.out | exact HS5.out)
            (first
              | (go_loud (refine st_copy rfl _ _ rfl lb (m * 512) _ _ _ _ _ rfl rfl _ 5 HQ.out.2.2.1 (bcells (xb.take 0)) HL.out HQ.out.2.1.src HF.out (bcells_one _) ?_; intro w5 B5 C5 S5; have hn5 := HN.out w5 B5 C5; have HR5 := hid hn5.1; have HS5 := hid hn5.2; have HC5 := hid C5; clear hn5 B5 C5 S5))
              | fail)
          go_wp2
          go_roundw
          case rel => exact ⟨k + 1, by go_num, by omega, HR5.out, fun F f2 => (HC.out F f2).trans (HC5.out F f2).of_drew (fun _ _ f => f)⟩
          case measure => simp [RowKit.intOf]; omega
        · by_cases hc2 : 512 < cut
          · have hck : keeps keep (k : Int) cut k = 512 := by rw [keeps_torn]; omega
            obtain ⟨g2, cap2, m, xg, xc, L, xb, rfl, q1, q2, q3, q4, q5, q6, ⟨e0, e1, e2, e3⟩, HQ, HN⟩ := hR.next HK.out hx (keeps_le _ _ _ _)
            rw [hck] at HQ HN
            have hkb : (k : Int) < 1000000 := by have := HW.out; omega
            have HS : Hid (wr.cell? ⟨rb, 0, none⟩ = some (.slice (some ⟨lb, 0, none⟩) L L) ∧ wr.cell? ⟨rb, 1, none⟩ = some (.slice (some ⟨g2, 0, none⟩) d.pend.length cap2) ∧ wr.cell? ⟨g2, k * 2, none⟩ = some (.int .i64 (m : Int)) ∧ wr.cell? ⟨g2, k * 2 + 1, none⟩ = some (.slice (some ⟨xg, 0, none⟩) 512 xc)) := ⟨e0, e1, e2, e3⟩
            have HL := hid (take_min (xb := xb) (q := 512) HQ.out.1 (by omega) (show 512 ≤ L - m * 512 by omega))
            have HF : Hid (m * 512 + (bcells (xb.take 512)).length ≤ (bcells (flatL (d.part (keeps keep (k : Int) cut) k).last d.pages)).length) := by
              have := take_le (xb := xb) (q := 512) HQ.out.1
              show _ ≤ _
              rw [HQ.out.2.2.2]
              omega
            have HQ3 := hid q3
            have HQ5 := hid q5
            have HQ6 := hid q6
            clear q2 hR hC q3 q4 q5 q6 hck
            go_wp2
            have hw1 : IntKind.i64.wrap ((m : Int) * 512) = (m : Int) * 512 := by have := HQ5.out; rw [IntKind.wrap_i64]; omega
            have hw2 : (0 : Int) ≤ (m : Int) * 512 := by omega
            have hw3 : (m : Int) * 512 ≤ (L : Int) := by have := HQ3.out; omega
            have hw4 : ((m : Int) * 512).toNat = m * 512 := by omega
            have hw5 : ¬ (L = m * 512) := by have := HQ3.out; omega
            have hw6 : (512 : Int) ≤ (xc : Int) := by have := HQ6.out; omega
            have hw7 : ¬ (xc = 0) := by have := HQ6.out; omega
            have hc4 : (0 : Int) < cut := by omega
            go_region_held_law (fun w' => w'.cell? ⟨rb, 0, none⟩ = some (.slice (some ⟨lb, 0, none⟩) L L) ∧ w'.cell? ⟨rb, 1, none⟩ = some (.slice (some ⟨g2, 0, none⟩) d.pend.length cap2) ∧ w'.cell? ⟨g2, k * 2, none⟩ = some (.int .i64 (m : Int)) ∧ w'.cell? ⟨g2, k * 2 + 1, none⟩ = some (.slice (some ⟨xg, 0, none⟩) 512 xc)) (first | exact HS.out | exact HS5.out)
              (first
                | (go_loud (refine st_copy rfl _ _ rfl lb (m * 512) _ _ _ _ _ rfl rfl _ 5 HQ.out.2.2.1 (bcells (xb.take 512)) HL.out HQ.out.2.1.src HF.out (bcells_one _) ?_; intro w5 B5 C5 S5; have hn5 := HN.out w5 B5 C5; have HR5 := hid hn5.1; have HS5 := hid hn5.2; have HC5 := hid C5; clear hn5 B5 C5 S5))
                | fail)
            go_wp2
            go_roundw
            case rel => exact ⟨k + 1, by go_num, by omega, HR5.out, fun F f2 => (HC.out F f2).trans (HC5.out F f2).of_drew (fun _ _ f => f)⟩
            case measure => simp [RowKit.intOf]; omega
          · obtain ⟨q, rfl⟩ := Int.eq_ofNat_of_zero_le (show 0 ≤ cut by omega)
            have hqb : q ≤ 512 := by omega
            have hck : keeps keep (k : Int) (q : Int) k = q := by rw [keeps_torn]; omega
            obtain ⟨g2, cap2, m, xg, xc, L, xb, rfl, q1, q2, q3, q4, q5, q6, ⟨e0, e1, e2, e3⟩, HQ, HN⟩ := hR.next HK.out hx (keeps_le _ _ _ _)
            rw [hck] at HQ HN
            have hkb : (k : Int) < 1000000 := by have := HW.out; omega
            have HS : Hid (wr.cell? ⟨rb, 0, none⟩ = some (.slice (some ⟨lb, 0, none⟩) L L) ∧ wr.cell? ⟨rb, 1, none⟩ = some (.slice (some ⟨g2, 0, none⟩) d.pend.length cap2) ∧ wr.cell? ⟨g2, k * 2, none⟩ = some (.int .i64 (m : Int)) ∧ wr.cell? ⟨g2, k * 2 + 1, none⟩ = some (.slice (some ⟨xg, 0, none⟩) 512 xc)) := ⟨e0, e1, e2, e3⟩
            have HL := hid (take_min (xb := xb) (q := q) HQ.out.1 (by omega) (show 512 ≤ L - m * 512 by omega))
            have HF : Hid (m * 512 + (bcells (xb.take q)).length ≤ (bcells (flatL (d.part (keeps keep (k : Int) (q : Int)) k).last d.pages)).length) := by
              have := take_le (xb := xb) (q := q) HQ.out.1
              show _ ≤ _
              rw [HQ.out.2.2.2]
              omega
            have HQ3 := hid q3
            have HQ5 := hid q5
            have HQ6 := hid q6
            clear q2 hR hC q3 q4 q5 q6 hck
            go_wp2
            have hw1 : IntKind.i64.wrap ((m : Int) * 512) = (m : Int) * 512 := by have := HQ5.out; rw [IntKind.wrap_i64]; omega
            have hw2 : (0 : Int) ≤ (m : Int) * 512 := by omega
            have hw3 : (m : Int) * 512 ≤ (L : Int) := by have := HQ3.out; omega
            have hw4 : ((m : Int) * 512).toNat = m * 512 := by omega
            have hw5 : ¬ (L = m * 512) := by have := HQ3.out; omega
            have hw6 : (512 : Int) ≤ (xc : Int) := by have := HQ6.out; omega
            have hw7 : ¬ (xc = 0) := by have := HQ6.out; omega
            have hc4 : (0 : Int) < (q : Int) := by omega
            have hc5 : ¬ (512 : Int) < (q : Int) := by omega
            have hc6 : (q : Int) ≤ (xc : Int) := by have := HQ6.out; omega
            have hc7 : 0 < q := by omega
            have hc8 : ¬ (q = 0) := by omega
            have hc9 : q ≤ xc := by have := HQ6.out; omega
            go_region_held_law (fun w' => w'.cell? ⟨rb, 0, none⟩ = some (.slice (some ⟨lb, 0, none⟩) L L) ∧ w'.cell? ⟨rb, 1, none⟩ = some (.slice (some ⟨g2, 0, none⟩) d.pend.length cap2) ∧ w'.cell? ⟨g2, k * 2, none⟩ = some (.int .i64 (m : Int)) ∧ w'.cell? ⟨g2, k * 2 + 1, none⟩ = some (.slice (some ⟨xg, 0, none⟩) 512 xc)) (first | exact HS.out | exact HS5.out)
              (first
                | (go_loud (refine st_copy rfl _ _ rfl lb (m * 512) _ _ _ _ _ rfl rfl _ 5 HQ.out.2.2.1 (bcells (xb.take q)) HL.out HQ.out.2.1.src HF.out (bcells_one _) ?_; intro w5 B5 C5 S5; have hn5 := HN.out w5 B5 C5; have HR5 := hid hn5.1; have HS5 := hid hn5.2; have HC5 := hid C5; clear hn5 B5 C5 S5))
                | fail)
            go_wp2
            go_roundw
            case rel => exact ⟨k + 1, by go_num, by omega, HR5.out, fun F f2 => (HC.out F f2).trans (HC5.out F f2).of_drew (fun _ _ f => f)⟩
            case measure => simp [RowKit.intOf]; omega
      · have htb : ((k : Int) == torn) = false := by simpa using ht
        by_cases hk2 : k < keep.length
        · obtain ⟨kb, ko, rfl, hkc2⟩ := (HBt.out wr hC).resolve_left (by rintro rfl; simp at hk2)
          have hbit := hkc2 k hk2
          have hk2' : (k : Int) < (keep.length : Int) := by omega
          clear HBt hkc2
          cases hbv : keep[k]
          · rw [hbv] at hbit
            have hck : keeps keep torn cut k = 0 := keeps_no ht (by rw [List.getD_eq_getElem?_getD, List.getElem?_eq_getElem hk2, hbv]; rfl)
            have hR1 := hid (part_skip hx hck)
            obtain ⟨c0, c1, c2, c3, fz⟩ := hR.cells
            obtain ⟨pp, pc, rfl, hpc⟩ := own_form hR.pd
            change wr.cell? _ = some (.slice pp d.pend.length pc) at c1
            have hkb : (k : Int) < 1000000 := by have := HW.out; omega
            clear hR hC hck hpc
            go_wp2
            go_roundw
            case rel => exact ⟨k + 1, by go_num, by omega, by rw [hR1.out]; exact HR.out, HC.out⟩
            case measure => simp [RowKit.intOf]; omega
          · rw [hbv] at hbit
            have hck : keeps keep torn cut k = 512 := keeps_yes ht hk2 hbv
            obtain ⟨g2, cap2, m, xg, xc, L, xb, rfl, q1, q2, q3, q4, q5, q6, ⟨e0, e1, e2, e3⟩, HQ, HN⟩ := hR.next HK.out hx (keeps_le _ _ _ _)
            rw [hck] at HQ HN
            have hkb : (k : Int) < 1000000 := by have := HW.out; omega
            have HS : Hid (wr.cell? ⟨rb, 0, none⟩ = some (.slice (some ⟨lb, 0, none⟩) L L) ∧ wr.cell? ⟨rb, 1, none⟩ = some (.slice (some ⟨g2, 0, none⟩) d.pend.length cap2) ∧ wr.cell? ⟨g2, k * 2, none⟩ = some (.int .i64 (m : Int)) ∧ wr.cell? ⟨g2, k * 2 + 1, none⟩ = some (.slice (some ⟨xg, 0, none⟩) 512 xc)) := ⟨e0, e1, e2, e3⟩
            have HL := hid (take_min (xb := xb) (q := 512) HQ.out.1 (by omega) (show 512 ≤ L - m * 512 by omega))
            have HF : Hid (m * 512 + (bcells (xb.take 512)).length ≤ (bcells (flatL (d.part (keeps keep torn cut) k).last d.pages)).length) := by
              have := take_le (xb := xb) (q := 512) HQ.out.1
              show _ ≤ _
              rw [HQ.out.2.2.2]
              omega
            have HQ3 := hid q3
            have HQ5 := hid q5
            have HQ6 := hid q6
            clear q2 hR hC q3 q4 q5 q6 hck
            go_wp2
            have hw1 : IntKind.i64.wrap ((m : Int) * 512) = (m : Int) * 512 := by have := HQ5.out; rw [IntKind.wrap_i64]; omega
            have hw2 : (0 : Int) ≤ (m : Int) * 512 := by omega
            have hw3 : (m : Int) * 512 ≤ (L : Int) := by have := HQ3.out; omega
            have hw4 : ((m : Int) * 512).toNat = m * 512 := by omega
            have hw5 : ¬ (L = m * 512) := by have := HQ3.out; omega
            have hw6 : (512 : Int) ≤ (xc : Int) := by have := HQ6.out; omega
            have hw7 : ¬ (xc = 0) := by have := HQ6.out; omega
            
            go_region_held_law (fun w' => w'.cell? ⟨rb, 0, none⟩ = some (.slice (some ⟨lb, 0, none⟩) L L) ∧ w'.cell? ⟨rb, 1, none⟩ = some (.slice (some ⟨g2, 0, none⟩) d.pend.length cap2) ∧ w'.cell? ⟨g2, k * 2, none⟩ = some (.int .i64 (m : Int)) ∧ w'.cell? ⟨g2, k * 2 + 1, none⟩ = some (.slice (some ⟨xg, 0, none⟩) 512 xc)) (first | exact HS.out | exact HS5.out)
              (first
                | (go_loud (refine st_copy rfl _ _ rfl lb (m * 512) _ _ _ _ _ rfl rfl _ 5 HQ.out.2.2.1 (bcells (xb.take 512)) HL.out HQ.out.2.1.src HF.out (bcells_one _) ?_; intro w5 B5 C5 S5; have hn5 := HN.out w5 B5 C5; have HR5 := hid hn5.1; have HS5 := hid hn5.2; have HC5 := hid C5; clear hn5 B5 C5 S5))
                | fail)
            go_wp2
            go_roundw
            case rel => exact ⟨k + 1, by go_num, by omega, HR5.out, fun F f2 => (HC.out F f2).trans (HC5.out F f2).of_drew (fun _ _ f => f)⟩
            case measure => simp [RowKit.intOf]; omega
        · have hk2' : ¬ ((k : Int) < (keep.length : Int)) := by omega
          clear HBt
          have hck : keeps keep torn cut k = 0 := keeps_no ht (by rw [List.getD_eq_getElem?_getD, List.getElem?_eq_none (by omega)]; rfl)
          have hR1 := hid (part_skip hx hck)
          obtain ⟨c0, c1, c2, c3, fz⟩ := hR.cells
          obtain ⟨pp, pc, rfl, hpc⟩ := own_form hR.pd
          change wr.cell? _ = some (.slice pp d.pend.length pc) at c1
          have hkb : (k : Int) < 1000000 := by have := HW.out; omega
          clear hR hC hck hpc
          go_wp2
          go_roundw
          case rel => exact ⟨k + 1, by go_num, by omega, by rw [hR1.out]; exact HR.out, HC.out⟩
          case measure => simp [RowKit.intOf]; omega
    · obtain rfl : k = d.pend.length := by omega
      obtain ⟨c0, c1, c2, c3, fz⟩ := hR.cells
      obtain ⟨pp, pc, rfl, hpc⟩ := own_form hR.pd
      have HD := hid (HR.out.done HK.out)
      have hlt := hR.blk.lt
      clear hR hC hpc HBt
      change wr.cell? _ = some (.slice pp d.pend.length pc) at c1
      change wr.cell? _ = some (.int .i64 d.arm) at c2
      change wr.cell? _ = some (.bool d.down) at c3
      go_wp2
      refine end0 Try.results49 rfl ?_
      have k1 := HK.out.settled (keeps keep torn cut)
      refine ⟨rfl, ?_, fun F f1 f2 => (((HC.out F f2).setCell (Or.inl f1) _).setCell (Or.inl f1) _).setCell (Or.inl f1) _⟩
      exact (HD.out.set (d' := { d.settled (keeps keep torn cut) with arm := -1 }) rfl rfl rfl rfl ⟨k1.last, k1.pend, k1.page, by show (-1 : Int) ≤ -1; omega, by show (-1 : Int) ≤ _; omega, k1.pages⟩).set rfl rfl rfl rfl (HK.out.mended keep torn cut)
set_option maxHeartbeats 1000000 in
theorem rsync_down (rb lb : Nat) (pv : Value) (rp : RP) (d : Dk) (w : World) (h : RDisk w rb lb pv rp d) (hd : d.down = true) :
    Calls Try.prog 47 #[.pointer (some ⟨rb, 0, none⟩)] w fun e w' => e = .returned (.int .i64 9) ∧ w' = w := by
  obtain ⟨c0, c1, c2, c3, fz⟩ := h.cells
  rw [hd] at c3
  clear h
  go_enter Try.func47, Try.ntmps47
  go_wp2
  go_ret
  exact ⟨rfl, rfl⟩
set_option maxHeartbeats 1000000 in
theorem rsync_fails (rb lb : Nat) (pv : Value) (rp : RP) (d : Dk) (w : World) (h : RDisk w rb lb pv rp d) (hd : d.down = false) (ha : d.arm = 0) :
    Calls Try.prog 47 #[.pointer (some ⟨rb, 0, none⟩)] w fun e w' => e = .returned (.int .i64 9) ∧ RDisk w' rb lb pv rp d.stepped ∧ (∀ F : Nat → Prop, F rb → Chg F w w') := by
  obtain ⟨c0, c1, c2, c3, fz⟩ := h.cells
  have S := rfails_any rb lb pv rp d w h
  rw [decide_eq_true ha] at S
  rw [hd] at c3
  clear h ha
  go_enter Try.func47, Try.ntmps47
  go_wp2_with (first
    | (go_at_call 75; with_reducible refine S.mono ?_; rintro e w4 ⟨rfl, P4, C4, S4⟩; have HP4 := hid P4; have HC4 := hid C4; clear P4 C4 S4)
    | fail)
  go_ret
  exact ⟨rfl, HP4.out, HC4.out⟩
/-- Nothing new, nothing pending. -/
theorem rd_less {w' : World} {rb lb : Nat} {pv : Value} {rp : RP} {d' : Dk} {F G : Nat → Prop} (P : RDisk w' rb lb (.slice none 0 0) [] d') (hF : ∀ k, rmine rb lb pv rp k → F k) (hG : ∀ k, F k → G k) : RD w' rb G d' := by
  refine ⟨lb, _, [], P, fun k hk => ?_⟩
  rcases hk with rfl | rfl | hk | ⟨x, hx, _⟩
  · exact hG _ (hF _ (Or.inl rfl))
  · exact hG _ (hF _ (Or.inr (Or.inl rfl)))
  · cases hk
  · cases hx
theorem rsyncD (rb : Nat) (F : Nat → Prop) (d : Dk) (w : World) (h : RD w rb F d) (hm : d.pend.length < 1000000) :
    Calls Try.prog 47 #[.pointer (some ⟨rb, 0, none⟩)] w fun e w' => e = .returned (.int .i64 d.syErr) ∧ RD w' rb F d.sy ∧ Chg F w w' := by
  have hP := h
  obtain ⟨lb, pv, rp, h, hF⟩ := h
  have f0 := hF _ (Or.inl rfl)
  have f1 := hF _ (Or.inr (Or.inl rfl))
  unfold Dk.syErr Dk.sy
  cases hd : d.down
  · by_cases h3 : d.arm = 0
    · simp only [h3, if_true, Bool.false_eq_true, if_false]
      refine (rsync_fails rb lb pv rp d w h hd h3).mono ?_
      rintro e w' ⟨he, P, C⟩
      exact ⟨he, ⟨lb, pv, rp, P, hF⟩, C F f0⟩
    · simp only [h3, Bool.false_eq_true, if_false]
      refine (rsync_ok rb lb pv rp d w h hd h3 hm).mono ?_
      rintro e w' ⟨he, P, C⟩
      exact ⟨he, rd_less P hF (fun _ f => f), C F f0 f1⟩
  · simp only [if_true]
    refine (rsync_down rb lb pv rp d w h hd).mono ?_
    rintro e w' ⟨he, rfl⟩
    exact ⟨he, hP, Chg.refl _ _⟩
theorem rmendD (rb : Nat) (F : Nat → Prop) (d : Dk) (kp : Option Addr) (keep : List Bool) (kc : Nat) (torn cut : Int) (w : World) (h : RD w rb F d) (hm : d.pend.length < 1000000) (hk : Bits w kp keep) (hkl : keep ≠ [] → ∀ b off, kp = some ⟨b, off, none⟩ → ¬ F b) (hkc : keep.length ≤ kc) :
    Calls Try.prog 49 #[.pointer (some ⟨rb, 0, none⟩), .slice kp keep.length kc, .int .i64 torn, .int .i64 cut] w fun e w' => e = .returned (.tuple #[]) ∧ RD w' rb F (d.mended keep torn cut) ∧ Chg F w w' := by
  obtain ⟨lb, pv, rp, h, hF⟩ := h
  have f0 := hF _ (Or.inl rfl)
  have f1 := hF _ (Or.inr (Or.inl rfl))
  refine (rmend_any rb lb pv rp d kp keep kc torn cut w h hm hk (fun hem b off e hb => hkl hem b off e (by rw [hb]; exact f1)) hkc).mono ?_
  rintro e w' ⟨he, P, C⟩
  exact ⟨he, rd_less P hF (fun _ f => f), C F f0 f1⟩
theorem rarmsD (rb : Nat) (F : Nat → Prop) (d : Dk) (n : Int) (w : World) (h : RD w rb F d) (hn : n ≤ 9223372036854775807) :
    Calls Try.prog 48 #[.pointer (some ⟨rb, 0, none⟩), .int .i64 n] w fun e w' => e = .returned (.tuple #[]) ∧ RD w' rb F (d.armed n) ∧ Chg F w w' := by
  obtain ⟨lb, pv, rp, h, hF⟩ := h
  refine (rarms_any rb lb pv rp d n w h hn).mono ?_
  rintro e w' ⟨he, P, C, _⟩
  exact ⟨he, ⟨lb, pv, rp, P, hF⟩, C F (hF _ (Or.inl rfl))⟩
end Go.Proofs.Ytnecigbncggogaa
