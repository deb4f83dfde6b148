/- What leafBytes, innerBytes, Encode and Piece of package node do. Conditions: the node lies within the reach. -/
import Derived.Test.YtilmlegkkgiahaaNdNew
import Derived.Test.YtilmlegkkgiahaaNdRight
namespace Go.Proofs.Ytilmlegkkgiahaa
open Go.RowKit Go.Lib
set_option linter.unusedVariables false
set_option maxRecDepth 20000

theorem encCells_append : ∀ l m : List Cl, encCells (l ++ m) = encCells l ++ encCells m
  | [], m => by simp [encCells]
  | c :: r, m => by simp only [List.cons_append, encCells, encCells_append r m, List.append_assoc]
theorem encCells_succ {l : List Cl} {k : Nat} (h : k < l.length) : encCells (l.take (k + 1)) = encCells (l.take k) ++ encCl l[k] := by
  rw [List.take_succ_eq_append_getElem h, encCells_append]
  simp [encCells]
theorem lenCells_take (l : List Cl) (k : Nat) : lenCells (l.take k) ≤ lenCells l := by
  have := lenCells_append (l.take k) (l.drop k)
  rw [List.take_append_drop] at this
  omega
theorem lenKeys_take (l : List (List UInt8)) (k : Nat) : lenKeys (l.take k) ≤ lenKeys l := by
  have := lenKeys_append (l.take k) (l.drop k)
  rw [List.take_append_drop] at this
  omega
theorem encKids_append : ∀ (l m : List (List UInt8)) (d e : List Int), d.length = l.length → encKids (l ++ m) (d ++ e) = encKids l d ++ encKids m e
  | [], m, [], e, _ => by simp [encKids]
  | k :: r, m, x :: d, e, h => by simp only [List.cons_append, encKids, encKids_append r m d e (by simpa using h), List.append_assoc]
theorem encKids_succ {l : List (List UInt8)} {d : List Int} {k : Nat} (h : k < l.length) (hd : k < d.length) : encKids (l.take (k + 1)) (d.take (k + 1)) = encKids (l.take k) (d.take k) ++ (UInt8.ofNat l[k].length :: (l[k] ++ le2 d[k].toNat)) := by
  rw [List.take_succ_eq_append_getElem h, List.take_succ_eq_append_getElem hd, encKids_append _ _ _ _ (by simp; omega)]
  simp [encKids]
/-- Four cells of a block. -/
structure Bx (w : World) (b : Nat) (x0 x1 x2 x3 : Value) : Prop where
  c0 : w.cell? ⟨b, 0, none⟩ = some x0
  c1 : w.cell? ⟨b, 1, none⟩ = some x1
  c2 : w.cell? ⟨b, 2, none⟩ = some x2
  c3 : w.cell? ⟨b, 3, none⟩ = some x3
theorem Bx.new (w : World) (x0 x1 x2 x3 : Value) (t : TypeId) : Bx (w.alloc (.cells #[x0, x1, x2, x3] t)) w.heap.size x0 x1 x2 x3 := ⟨by go_simp, by go_simp, by go_simp, by go_simp⟩
theorem Bx.chg {w w' : World} {b : Nat} {x0 x1 x2 x3 : Value} {G : Nat → Prop} (h : Bx w b x0 x1 x2 x3) (C : Chg G w w') (hn : ¬ G b) : Bx w' b x0 x1 x2 x3 := ⟨C.cell h.c0 hn, C.cell h.c1 hn, C.cell h.c2 hn, C.cell h.c3 hn⟩
theorem Bx.below {w w' : World} {b : Nat} {x0 x1 x2 x3 : Value} (h : Bx w b x0 x1 x2 x3) (B : Below w.heap.size w w') : Bx w' b x0 x1 x2 x3 := ⟨below_cell B h.c0, below_cell B h.c1, below_cell B h.c2, below_cell B h.c3⟩
theorem Bx.get {w : World} {b : Nat} {x0 x1 x2 x3 : Value} (h : Bx w b x0 x1 x2 x3) : w.cell? ⟨b, 0, none⟩ = some x0 ∧ w.cell? ⟨b, 1, none⟩ = some x1 ∧ w.cell? ⟨b, 2, none⟩ = some x2 ∧ w.cell? ⟨b, 3, none⟩ = some x3 := ⟨h.c0, h.c1, h.c2, h.c3⟩
theorem Wb.made {w1 : World} {g : Nat} {l : List UInt8} (R : Rw w1 g l) (n : Nat) (hn : l.length = n) (t : TypeId) : Wb (w1.alloc (.cells #[.slice (some ⟨g, 0, none⟩) n 508] t)) w1.heap.size g l := by
  subst hn
  exact ⟨R.alloc _, by go_simp, by go_simp, Nat.ne_of_lt R.lt⟩
theorem below_wset {w w1 w2 : World} {wb g : Nat} (B : Below w.heap.size w w1) (C : Chg (wset wb g) w1 w2) (h1 : w.heap.size ≤ wb) (h2 : w.heap.size ≤ g) : Below w.heap.size w w2 :=
  B.trans (C.below (fun k hk => by rcases hk with rfl | rfl; exact h1; exact h2) B.size)
def encEnd (w : World) (b : List UInt8) (e : Ending) (w' : World) : Prop := ∃ v, e = .returned v ∧ OwnB w' w.heap.size v b ∧ Below w.heap.size w w'
theorem Cls.old {w : World} {F : Nat → Prop} {p : Option Addr} {l : List Cl} (h : Cls w F p l) : Cls w (· < w.heap.size) p l := h.mono (fun k hk _ => hk)
theorem Kys.old {w : World} {F : Nat → Prop} {p : Option Addr} {l : List (List UInt8)} (h : Kys w F p l) : Kys w (· < w.heap.size) p l := h.mono (fun k hk _ => hk)

set_option maxHeartbeats 4000000 in
theorem leafBytes_any {F : Nat → Prop} (p : Option Addr) (l : List Cl) (c : Nat) (w : World) (h : Cls w F p l) (hok : l.all Cl.ok = true) (hl : 3 + lenCells l ≤ 508) :
    Calls Try.prog 26 #[.slice p l.length c] w (encEnd w (padTo 508 (1 :: (le2 l.length ++ encCells l)))) := by
  have H := hid h.old
  have HOK := hid hok
  have hn3 := lenCells_ge l
  have hn : l.length < 65536 := by omega
  have A0 := hid (newWriter_any 1 1 rfl w)
  unfold nwEnd at A0
  have A1 := hid (fun g w1 (R : Rw w1 g [1]) => wnum_any w1.heap.size g l.length [1] _ (Wb.made R 1 rfl 83) hn (by simp))
  clear h hok
  go_enter Try.func26, Try.ntmps26
  go_wp2_with (first
    | (go_at_call 43; with_reducible refine A0.out.mono ?_; rintro e w1 ⟨g, rfl, R1, hg1, B1⟩; have A2 := hid (A1.out g w1 R1); have HR1 := hid R1; have HB1 := hid B1; clear R1 B1)
    | (go_at_call 44; with_reducible refine A2.out.mono ?_; rintro e w2 ⟨rfl, W2, C2⟩; have HW2 := hid W2; have HC2 := hid C2; clear W2 C2 A2)
    | fail)
  have HS1 : Hid (w.heap.size ≤ w1.heap.size) := HB1.out.size
  have HB2 : Hid (Below w.heap.size w w2) := below_wset (HB1.out.alloc HS1.out _) HC2.out HS1.out hg1
  have HS2 : Hid (w1.heap.size < w2.heap.size) := HW2.out.lt
  have HG2 : Hid (g < w2.heap.size) := HW2.out.row.lt
  have hne : g ≠ w1.heap.size := HW2.out.ne
  have HNe := hid hne
  clear A0 A1 HR1 HC2 HB1 hne
  generalize w1.heap.size = wb at *
  go_loopw [12] (fun i wr => ∃ k : Nat, i = .int .i64 (k : Int) ∧ k ≤ l.length ∧ Wb wr wb g (1 :: (le2 l.length ++ encCells (l.take k))) ∧ Below w.heap.size w wr) (fun i _ => l.length - (RowKit.intOf i).toNat)
  case atStart => exact ⟨0, rfl, Nat.zero_le _, by simpa [encCells] using HW2.out, HB2.out⟩
  case round =>
    clear HW2 HB2 HS2 HG2
    obtain ⟨k, rfl, hk, hW, hB⟩ := hrel
    have HW := hid hW
    have HB := hid hB
    have hlt : wb < wr.heap.size := hW.lt
    have hgl : g < wr.heap.size := hW.row.lt
    clear hW hB
    by_cases hx : k < l.length
    · obtain ⟨gc, off, p1, c1, p2, c2, rfl, c10, c11, c12, c13, b1, b2, _⟩ := (H.out.kp (Kp.of_below HB.out)).get hx
      obtain ⟨hb1, _⟩ := b1.len
      obtain ⟨hb2, _⟩ := b2.len
      have hck : l[k].ok = true := List.all_eq_true.1 HOK.out _ (List.getElem_mem hx)
      obtain ⟨hk1, hk2⟩ := Cl.ok_parts hck
      have hsz : 0 ≤ l[k].size ∧ l[k].size ≤ 2048 := by rcases hk2 with ⟨_, h1, h2⟩ | ⟨_, _, _, h1, h2⟩ <;> omega
      obtain ⟨N, hN⟩ : ∃ N : Nat, l[k].size = (N : Int) := ⟨l[k].size.toNat, by omega⟩
      have hlen : (1 :: (le2 l.length ++ encCells (l.take k))).length + l[k].len ≤ 508 := by
        have e1 := lenCells_succ hx
        have e2 := lenCells_take l (k + 1)
        simp only [List.length_cons, List.length_append, le2_len, encCells_len]
        omega
      have hE := hid (encCells_succ hx)
      have HB1 := hid (alloc_below wr (.cells #[.slice p1 l[k].key.length c1, .slice p2 l[k].val.length c2, .int .i64 l[k].over, .int .i64 (N : Int)] 58))
      have HX := hid (Bx.new wr (.slice p1 l[k].key.length c1) (.slice p2 l[k].val.length c2) (.int .i64 l[k].over) (.int .i64 (N : Int)) 58)
      have HFn : Hid (∀ j, j < w.heap.size → j ≠ wb ∧ j ≠ g) := fun j hj => ⟨by have := HS1.out; omega, by omega⟩
      have HFw : Hid (∀ j, j < w.heap.size → ¬ wset wb g j) := fun j hj e => by rcases e with e | e; exact (HFn.out j hj).1 e; exact (HFn.out j hj).2 e
      have HNb : Hid (¬ wset wb g wr.heap.size) := by intro e; rcases e with e | e <;> omega
      generalize hpre : 1 :: (le2 l.length ++ encCells (l.take k)) = pre at *
      have K1 := hid (wkey_any wb g _ pre l[k].key _ (HW.out.below HB1.out) (b1.below HB1.out) HFn.out (by omega) (by unfold Cl.len at hlen; omega))
      have K2 := hid (fun w3 (h : Wb w3 wb g (pre ++ (UInt8.ofNat l[k].key.length :: l[k].key))) => wnum_any wb g N _ w3 h (by omega) (by simp only [List.length_append, List.length_cons]; unfold Cl.len at hlen; split at hlen <;> omega))
      have BV2 := hid (b2.below HB1.out)
      rw [hN] at c13
      clear b1 b2
      by_cases h0 : l[k].over = 0
      · have hv := Cl.len_in h0
        have hfin : Hid (pre ++ (UInt8.ofNat l[k].key.length :: l[k].key) ++ le2 N ++ l[k].val = 1 :: (le2 l.length ++ encCells (l.take (k + 1)))) := by
          show _ = _
          rw [hE.out, ← hpre]
          unfold encCl
          rw [if_pos h0, hN]
          simp [List.append_assoc]
        have K3 := hid (fun w4 (h : Wb w4 wb g (pre ++ (UInt8.ofNat l[k].key.length :: l[k].key) ++ le2 N)) (X : BV w4 (· < w.heap.size) (.slice p2 l[k].val.length c2) l[k].val) => wbytes_any wb g _ _ l[k].val w4 h X (by simp only [List.length_append, List.length_cons, le2_len]; omega))
        rw [h0] at c12 HX HB1 K1 BV2
        clear hE hpre hN hck hk2 hlen hv
        go_wp2_with (first
          | (go_at_call 48; with_reducible refine K1.out.mono ?_; rintro e w3 ⟨rfl, W3, C3⟩; have HX3 := hid (HX.out.chg C3 HNb.out); obtain ⟨x0, x1, x2, x3⟩ := HX3.out.get; have K4 := hid (K2.out w3 W3); have HC3 := hid C3; clear W3 C3)
          | (go_at_call 44; with_reducible refine K4.out.mono ?_; rintro e w4 ⟨rfl, W4, C4⟩; have HC4 := hid (HC3.out.trans C4 (fun _ _ h => h)); obtain ⟨y0, y1, y2, y3⟩ := (HX3.out.chg C4 HNb.out).get; have K5 := hid (K3.out w4 W4 (BV2.out.kp (Kp.of_chg HC4.out HFw.out))); clear W4 C4 x0 x1 x2 x3)
          | (go_at_call 45; with_reducible refine K5.out.mono ?_; rintro e w5 ⟨rfl, W5, C5, _⟩; have HC5 := hid (HC4.out.trans C5 (fun _ _ h => h)); have HW5 := hid W5; clear W5 C5)
          | fail)
        go_roundw
        case rel => exact ⟨k + 1, by go_num, by omega, by rw [← hfin.out]; exact HW5.out, below_wset (HB.out.trans (HB1.out.mono HB.out.size)) HC5.out HS1.out hg1⟩
        case measure => simp [RowKit.intOf]; omega
      · have hv := Cl.len_over h0
        have h0b : (l[k].over == 0) = false := beq_eq_false_iff_ne.2 h0
        have hov : 2 ≤ l[k].over ∧ l[k].over < 4096 := by rcases hk2 with ⟨h1, _⟩ | ⟨h1, h2, _⟩ <;> omega
        obtain ⟨O, hO⟩ : ∃ O : Nat, l[k].over = (O : Int) := ⟨l[k].over.toNat, by omega⟩
        have hfin : Hid (pre ++ (UInt8.ofNat l[k].key.length :: l[k].key) ++ le2 N ++ le2 O = 1 :: (le2 l.length ++ encCells (l.take (k + 1)))) := by
          show _ = _
          rw [hE.out, ← hpre]
          unfold encCl
          rw [if_neg h0, hN, hO]
          simp [List.append_assoc]
        have K3 := hid (fun w4 (h : Wb w4 wb g (pre ++ (UInt8.ofNat l[k].key.length :: l[k].key) ++ le2 N)) => wnum_any wb g O _ w4 h (by omega) (by simp only [List.length_append, List.length_cons, le2_len]; omega))
        rw [hO] at c12 HX HB1 K1 h0b h0
        clear hE hpre hN hck hk2 hlen hv BV2 hov hO
        go_wp2_with (first
          | (go_at_call 48; with_reducible refine K1.out.mono ?_; rintro e w3 ⟨rfl, W3, C3⟩; have HX3 := hid (HX.out.chg C3 HNb.out); obtain ⟨x0, x1, x2, x3⟩ := HX3.out.get; have K4 := hid (K2.out w3 W3); have HC3 := hid C3; clear W3 C3)
          | (go_at_call 44; with_reducible refine K4.out.mono ?_; rintro e w4 ⟨rfl, W4, C4⟩; have HC4 := hid (HC3.out.trans C4 (fun _ _ h => h)); obtain ⟨y0, y1, y2, y3⟩ := (HX3.out.chg C4 HNb.out).get; have K5 := hid (K3.out w4 W4); clear W4 C4 x0 x1 x2 x3 K4)
          | (go_at_call 44; with_reducible refine K5.out.mono ?_; rintro e w5 ⟨rfl, W5, C5⟩; have HC5 := hid (HC4.out.trans C5 (fun _ _ h => h)); have HW5 := hid W5; clear W5 C5)
          | fail)
        go_roundw
        case rel => exact ⟨k + 1, by go_num, by omega, by rw [← hfin.out]; exact HW5.out, below_wset (HB.out.trans (HB1.out.mono HB.out.size)) HC5.out HS1.out hg1⟩
        case measure => simp [RowKit.intOf]; omega
    · obtain rfl : k = l.length := by omega
      have HW2 : Hid (Wb wr wb g (1 :: (le2 l.length ++ encCells l))) := by have := HW.out; rw [List.take_length] at this; exact this
      have L := hid (wload_any wb g _ wr HW2.out)
      clear HW
      go_wp2_with (first
        | (go_at_call 46; with_reducible refine L.out.mono ?_; rintro e w3 ⟨rfl, hw⟩; subst hw)
        | fail)
      go_ret
      exact ⟨_, rfl, HW2.out.row.own hg1, HB.out⟩
end Go.Proofs.Ytilmlegkkgiahaa
