/- What innerBytes, Encode and Piece of package node do. Conditions: the node lies within the reach. -/
import Derived.Test.YtilmlegkkgiahaaNdEncL
namespace Go.Proofs.Ytilmlegkkgiahaa
open Go.RowKit Go.Lib
set_option linter.unusedVariables false
set_option maxRecDepth 20000

set_option maxHeartbeats 4000000 in
theorem innerBytes_any {F : Nat → Prop} (p q : Option Addr) (l : List (List UInt8)) (d : Int) (m : List Int) (c c' : Nat) (w : World) (h : Kys w F p l) (hd : Kds w F q (d :: m)) (hm : m.length = l.length) (hok : l.all kOk = true) (hpg : (d :: m).all isPage = true) (hl : 5 + lenKeys l ≤ 508) :
    Calls Try.prog 27 #[.slice p l.length c, .slice q (l.length + 1) c'] w (encEnd w (padTo 508 (2 :: (le2 l.length ++ (le2 d.toNat ++ encKids l m))))) := by
  have H := hid h.old
  have HD := hid hd
  have HOK := hid hok
  have HPG := hid hpg
  have HM := hid hm
  have hn3 := lenKeys_ge l
  have hn : l.length < 65536 := by omega
  have hd0 : 2 ≤ d ∧ d < 4096 := by
    simp only [List.all_cons, Bool.and_eq_true, isPage, decide_eq_true_eq] at hpg
    exact hpg.1
  obtain ⟨D, rfl⟩ : ∃ D : Nat, d = (D : Int) := ⟨d.toNat, by omega⟩
  have A0 := hid (newWriter_any 2 2 rfl w)
  unfold nwEnd at A0
  have A1 := hid (fun g w1 (R : Rw w1 g [2]) => wnum_any w1.heap.size g l.length [2] _ (Wb.made R 1 rfl 83) hn (by simp))
  have A3 := hid (fun g wb w2 (h : Wb w2 wb g ([2] ++ le2 l.length)) => wnum_any wb g D _ w2 h (by omega) (by simp [le2_len]))
  have HD0 := hid (fun w' (B : Below w.heap.size w w') => (hd.kp (Kp.of_below B)).at (i := 0) (by simp))
  clear h hok hd hpg hm
  go_enter Try.func27, Try.ntmps27
  go_wp2_with (first
    | (go_at_call 43; with_reducible refine A0.out.mono ?_; rintro e w1 ⟨g, rfl, R1, hg1, B1⟩; have A2 := hid (A1.out g w1 R1); have HR1 := hid R1; have HB1 := hid B1; clear R1 B1)
    | (go_at_call 44; with_reducible refine A2.out.mono ?_; rintro e w2 ⟨rfl, W2, C2⟩; have A4 := hid (A3.out g _ w2 W2); have HB2 := hid (below_wset (HB1.out.alloc HB1.out.size _) C2 HB1.out.size hg1); obtain ⟨gd, od, hq, _, cd0⟩ := HD0.out w2 HB2.out; subst hq; simp only [Nat.add_zero, List.getElem_cons_zero] at cd0; clear W2 C2 A2)
    | (go_at_call 44; with_reducible refine A4.out.mono ?_; rintro e w3 ⟨rfl, W3, C3⟩; have HW3 := hid W3; have HC3 := hid C3; clear W3 C3 A4)
    | fail)
  have HS1 : Hid (w.heap.size ≤ w1.heap.size) := HB1.out.size
  have HB3 : Hid (Below w.heap.size w w3) := below_wset HB2.out HC3.out HS1.out hg1
  clear A0 A1 A3 HR1 HC3 HB1 HB2 HD0 cd0
  generalize w1.heap.size = wb at *
  go_loopw [18] (fun i wr => ∃ k : Nat, i = .int .i64 (k : Int) ∧ k ≤ l.length ∧ Wb wr wb g (2 :: (le2 l.length ++ (le2 D ++ encKids (l.take k) (m.take k)))) ∧ Below w.heap.size w wr) (fun i _ => l.length - (RowKit.intOf i).toNat)
  case atStart => exact ⟨0, rfl, Nat.zero_le _, by simpa [encKids] using HW3.out, HB3.out⟩
  case round =>
    clear HW3 HB3
    obtain ⟨k, rfl, hk, hW, hB⟩ := hrel
    have HW := hid hW
    have HB := hid hB
    have hlt : wb < wr.heap.size := hW.lt
    have hgl : g < wr.heap.size := hW.row.lt
    clear hW hB
    by_cases hx : k < l.length
    · obtain ⟨gc, off, p1, c1, rfl, c10, b1, _⟩ := (H.out.kp (Kp.of_below HB.out)).get hx
      obtain ⟨hb1, _⟩ := b1.len
      have hxm : k < m.length := by have := HM.out; omega
      obtain ⟨ge, oe, hge, _, d1⟩ := (HD.out.kp (Kp.of_below HB.out)).at (i := k + 1) (by simpa using hxm)
      simp only [Option.some.injEq, Addr.mk.injEq, and_true] at hge
      obtain ⟨rfl, rfl⟩ := hge
      simp only [List.getElem_cons_succ] at d1
      have HD1 := hid (fun w' (B : Below w.heap.size w w') => (HD.out.kp (Kp.of_below B)).at (i := k + 1) (by simpa using hxm))
      have hck : l[k].length ≤ 128 := of_decide_eq_true (List.all_eq_true.1 HOK.out _ (List.getElem_mem hx))
      have hpk : 2 ≤ m[k] ∧ m[k] < 4096 := by
        have := List.all_eq_true.1 HPG.out m[k] (List.mem_cons_of_mem _ (List.getElem_mem hxm))
        simpa [isPage] using this
      obtain ⟨N, hN⟩ : ∃ N : Nat, m[k] = (N : Int) := ⟨m[k].toNat, by omega⟩
      have hlen : (2 :: (le2 l.length ++ (le2 D ++ encKids (l.take k) (m.take k)))).length + (3 + l[k].length) ≤ 508 := by
        have e1 := lenKeys_succ hx
        have e2 := lenKeys_take l (k + 1)
        have e3 := encKids_len (l.take k) (m.take k) (by simp; omega)
        simp only [List.length_cons, List.length_append, le2_len, e3]
        omega
      have hE := hid (encKids_succ hx hxm)
      have HFn : Hid (∀ j, j < w.heap.size → j ≠ wb ∧ j ≠ g) := fun j hj => ⟨by have := HS1.out; omega, by omega⟩
      generalize hpre : 2 :: (le2 l.length ++ (le2 D ++ encKids (l.take k) (m.take k))) = pre at *
      have K1 := hid (wkey_any wb g _ pre l[k] _ HW.out b1 HFn.out (by omega) (by omega))
      have K2 := hid (fun w3 (h : Wb w3 wb g (pre ++ (UInt8.ofNat l[k].length :: l[k]))) => wnum_any wb g N _ w3 h (by omega) (by simp only [List.length_append, List.length_cons]; omega))
      have HBk := hid (fun w3 (C : Chg (wset wb g) wr w3) => below_wset HB.out C HS1.out hg1)
      have HDk : Hid (∀ w3, Below w.heap.size w w3 → w3.cell? ⟨gd, od + (k + 1), none⟩ = some (.int .i64 (N : Int))) := fun w3 B => by
        obtain ⟨ge', oe', hge, _, d2⟩ := HD1.out w3 B
        simp only [Option.some.injEq, Addr.mk.injEq, and_true] at hge
        obtain ⟨rfl, rfl⟩ := hge
        simp only [List.getElem_cons_succ, hN] at d2
        exact d2
      have hfin : Hid (pre ++ (UInt8.ofNat l[k].length :: l[k]) ++ le2 N = 2 :: (le2 l.length ++ (le2 D ++ encKids (l.take (k + 1)) (m.take (k + 1))))) := by
        show _ = _
        rw [hE.out, ← hpre, hN]
        simp [List.append_assoc]
      clear b1 hE hpre hlen HD1 d1 hN hpk
      go_wp2_with (first
        | (go_at_call 48; with_reducible refine K1.out.mono ?_; rintro e w3 ⟨rfl, W3, C3⟩; have K4 := hid (K2.out w3 W3); have HB3 := hid (HBk.out w3 C3); have dk := HDk.out w3 HB3.out; clear W3 C3)
        | (go_at_call 44; with_reducible refine K4.out.mono ?_; rintro e w4 ⟨rfl, W4, C4⟩; have HB4 := hid (below_wset HB3.out C4 HS1.out hg1); have HW4 := hid W4; clear W4 C4)
        | fail)
      go_roundw
      case rel => exact ⟨k + 1, by go_num, by omega, by rw [← hfin.out]; exact HW4.out, HB4.out⟩
      case measure => simp [RowKit.intOf]; omega
    · obtain rfl : k = l.length := by omega
      have HW2 : Hid (Wb wr wb g (2 :: (le2 l.length ++ (le2 D ++ encKids l m)))) := by have := HW.out; rw [List.take_length, List.take_of_length_le (by have := HM.out; omega)] at this; exact this
      have L := hid (wload_any wb g _ wr HW2.out)
      clear HW
      go_wp2_with (first
        | (go_at_call 46; with_reducible refine L.out.mono ?_; rintro e w3 ⟨rfl, hw⟩; subst hw)
        | fail)
      go_ret
      exact ⟨_, rfl, HW2.out.row.own hg1, HB.out⟩
end Go.Proofs.Ytilmlegkkgiahaa
