/- What Piece of package node does; the document's two and pad, and its Piece. Conditions: the bytes lie within the reach. -/
import Derived.Test.YtilmlegkkgiahaaNdEnc
namespace Go.Proofs.Ytilmlegkkgiahaa
open Go.RowKit Go.Lib
set_option linter.unusedVariables false
set_option maxRecDepth 20000

def peEnd (d : List UInt8) (next : Int) (w : World) (e : Ending) (w' : World) : Prop := Below w.heap.size w w' ∧ ((pieceOk d next = true ∧ ∃ v, e = .returned (.tuple #[v, .int .i64 0]) ∧ OwnB w' w.heap.size v (piece d next)) ∨ (pieceOk d next = false ∧ e = .returned (.tuple #[.slice none 0 0, .int .i64 3])))
theorem BV.old {w : World} {F : Nat → Prop} {v : Value} {l : List UInt8} (h : BV w F v l) : BV w (· < w.heap.size) v l := h.mono (fun k hk _ => hk)
set_option maxHeartbeats 2000000 in
theorem piece_any {F : Nat → Prop} (p : Option Addr) (d : List UInt8) (c : Nat) (next : Int) (w : World) (h : BV w F (.slice p d.length c) d) :
    Calls Try.prog 23 #[.slice p d.length c, .int .i64 next] w (peEnd d next w) := by
  have HD := hid h.old
  obtain ⟨hd, _⟩ := h.len
  have HB0 := hid (alloc_below w (.cells #[.slice p d.length c, .int .i64 next] 77))
  have A := hid (isRight_any p d c next (w.alloc (.cells #[.slice p d.length c, .int .i64 next] 77)) hd)
  clear h
  cases hq : pieceOk d next
  · rw [hq] at A
    unfold peEnd
    have HQ := hid hq
    clear HD hq
    go_enter Try.func23, Try.ntmps23
    go_wp2_with (first
      | (go_at_call 42; with_reducible refine A.out.mono ?_; rintro e w3 ⟨rfl, b3⟩; have HB3 := hid (HB0.out.trans (b3.mono HB0.out.size)); clear b3)
      | fail)
    go_ret2
    exact ⟨HB3.out, Or.inr ⟨HQ.out, rfl⟩⟩
  · rw [hq] at A
    unfold peEnd
    have HQ := hid hq
    obtain ⟨hl1, hl2, hn1, hn2⟩ := piece_parts hq
    obtain ⟨N, rfl⟩ : ∃ N : Nat, next = (N : Int) := ⟨next.toNat, by omega⟩
    have HP : Hid (piece d (N : Int) = padTo 508 ([3] ++ le2 N ++ le2 d.length ++ d)) := by show _ = _; unfold piece; simp [List.append_assoc]
    rw [HP.out]
    have A0 := hid (fun w => newWriter_any 3 3 rfl w)
    unfold nwEnd at A0
    have A1 := hid (fun g w1 (R : Rw w1 g [3]) => wnum_any w1.heap.size g N [3] _ (Wb.made R 1 rfl 83) (by omega) (by simp))
    have A2 := hid (fun g wb w1 (h : Wb w1 wb g ([3] ++ le2 N)) => wnum_any wb g d.length _ w1 h (by omega) (by simp [le2_len]))
    have A3 := hid (fun g wb w1 (h : Wb w1 wb g ([3] ++ le2 N ++ le2 d.length)) (X : BV w1 (· < w.heap.size) (.slice p d.length c) d) => wbytes_any wb g _ _ d w1 h X (by simp [le2_len]; omega))
    have A4 := hid (fun g wb w1 (h : Wb w1 wb g ([3] ++ le2 N ++ le2 d.length ++ d)) => wload_any wb g _ w1 h)
    clear hq hl1 hl2 hn1 hn2
    go_enter Try.func23, Try.ntmps23
    go_wp2_with (first
      | (go_at_call 42; with_reducible refine A.out.mono ?_; rintro e w3 ⟨rfl, b3⟩; have HB3 := hid (HB0.out.trans (b3.mono HB0.out.size)); clear b3)
      | (go_at_call 43; with_reducible refine (A0.out _).mono ?_; rintro e w4 ⟨g, rfl, R4, hg4, B4⟩; have HG := hid (Nat.le_trans HB3.out.size hg4); have HB4 := hid (HB3.out.trans (B4.mono HB3.out.size)); have A5 := hid (A1.out g w4 R4); clear R4 hg4 B4)
      | (go_at_call 44; with_reducible refine A5.out.mono ?_; rintro e w5 ⟨rfl, W5, C5⟩; have HB5 := hid (below_wset (HB4.out.alloc HB4.out.size _) C5 HB4.out.size HG.out); have A6 := hid (A2.out g _ w5 W5); clear W5 C5 A5)
      | (go_at_call 44; with_reducible refine A6.out.mono ?_; rintro e w6 ⟨rfl, W6, C6⟩; have HB6 := hid (below_wset HB5.out C6 HB4.out.size HG.out); have A7 := hid (A3.out g _ w6 W6 (HD.out.kp (Kp.of_below HB6.out))); clear W6 C6 A6)
      | (go_at_call 45; with_reducible refine A7.out.mono ?_; rintro e w7 ⟨rfl, W7, C7, _⟩; have HB7 := hid (below_wset HB6.out C7 HB4.out.size HG.out); have A8 := hid (A4.out g _ w7 W7); have HW7 := hid W7; clear W7 C7 A7)
      | (go_at_call 46; with_reducible refine A8.out.mono ?_; rintro e w8 ⟨rfl, hw⟩; subst w8)
      | fail)
    go_ret2
    exact ⟨HB7.out, Or.inl ⟨HQ.out, _, rfl, HW7.out.row.own HG.out⟩⟩

/-! ### The document's -/
def twEnd (w : World) (N : Nat) (e : Ending) (w' : World) : Prop := ∃ v, e = .returned v ∧ OwnB w' w.heap.size v (le2 N) ∧ Below w.heap.size w w'
set_option maxHeartbeats 1000000 in
theorem two_any (N : Nat) (w : World) (hN : N < 65536) : Calls Try.prog 28 #[.int .i64 (N : Int)] w (twEnd w N) := by
  have HX := hid (own_lits w w.heap.size (Nat.le_refl _) (le2 N) #[.int .u8 ((N : Int) % 256), .int .u8 ((N : Int) / 256)] (by
    have e1 : (((UInt8.ofNat (N % 256)).toNat : Nat) : Int) = (N : Int) % 256 := by simp <;> omega
    have e2 : (((UInt8.ofNat (N / 256)).toNat : Nat) : Int) = (N : Int) / 256 := by simp <;> omega
    simp only [bcells, le2, List.map_cons, List.map_nil, e1, e2]) (by unfold maxLen; simp [le2]))
  go_enter Try.func28, Try.ntmps28
  go_wp2
  go_ret
  exact ⟨_, rfl, HX.out, alloc_below _ _⟩
theorem padTo_more {l : List UInt8} {L : Nat} (h : l.length < L) : padTo L (l ++ [0]) = padTo L l := by
  unfold padTo
  rw [List.append_assoc, show ([0] : List UInt8) = List.replicate 1 0 from rfl, List.replicate_append_replicate]
  congr 2
  simp
  omega
theorem padTo_full {l : List UInt8} {L : Nat} (h : L ≤ l.length) : padTo L l = l := by
  unfold padTo
  rw [Nat.sub_eq_zero_of_le h]
  simp
theorem OwnB.alloc' {w : World} {base : Nat} {v : Value} {l : List UInt8} (o : OwnB w base v l) (x : Obj) : OwnB (w.alloc x) base v l := World.ownsRow.alloc o x
def sliceLen : Value → Nat
  | .slice _ n _ => n
  | _ => 0
def pdEnd (base : Nat) (w : World) (l : List UInt8) (e : Ending) (w' : World) : Prop := ∃ v, e = .returned v ∧ OwnB w' base v (padTo 508 l) ∧ Below base w w'
set_option maxHeartbeats 1000000 in
theorem pad_any (base : Nat) (v : Value) (l : List UInt8) (w : World) (O : OwnB w base v l) (hl : l.length ≤ 1000000) (hb : base ≤ w.heap.size) : Calls Try.prog 29 #[v] w (pdEnd base w l) := by
  have HO := hid O
  obtain ⟨p, c, rfl, _⟩ := O.form
  clear O
  go_enter Try.func29, Try.ntmps29
  go_wp2
  go_loopw [0] (fun b wr => ∃ (q : Option Addr) (d : Nat) (m : List UInt8), b = .slice q m.length d ∧ OwnB wr base (.slice q m.length d) m ∧ m.length ≤ 1000000 ∧ padTo 508 m = padTo 508 l ∧ Below base w wr) (fun b _ => 508 - sliceLen b)
  case atStart => exact ⟨p, c, l, rfl, HO.out, hl, rfl, Below.refl _ _⟩
  case round =>
    clear HO
    obtain ⟨q, d, m, rfl, hO, hm, hP, hB⟩ := hrel
    have HO := hid hO
    have HP := hid hP
    have HB := hid hB
    clear hO hP hB
    by_cases hx : m.length < 508
    · have HQ := hid (padTo_more hx)
      have HX := hid (lit_bv wr [0] #[.int .u8 0] (by simp [bcells]) (by simp))
      have hbr : base ≤ wr.heap.size := Nat.le_trans hb HB.out.size
      go_wp2_with (at_builtin; obtain ⟨v', w', hr, O', P', B'⟩ := run_appY 31 (OwnB.alloc' HO.out _) HX.out (by simp; omega) (by simp; omega); refine wl_run rfl rfl rfl rfl hr ?_; clear hr; obtain ⟨q', d', hv', _⟩ := O'.form; subst hv'; have HO' := hid O'; have HB' := hid (((Below.refl base wr).alloc hbr _).trans B'); clear O' P' B')
      go_roundw
      case rel => exact ⟨_, _, m ++ [0], by simp, HO'.out, by simp; omega, HQ.out.trans HP.out, HB.out.trans HB'.out⟩
      case measure => simp [sliceLen]; omega
    · have HQ := hid (padTo_full (L := 508) (l := m) (by omega))
      go_wp2
      go_ret
      exact ⟨_, rfl, by rw [← HP.out, HQ.out]; exact HO.out, HB.out⟩
end Go.Proofs.Ytilmlegkkgiahaa
