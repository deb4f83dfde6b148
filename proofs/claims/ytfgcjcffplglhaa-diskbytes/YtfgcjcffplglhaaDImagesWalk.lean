/- The walk of DiskImages. No conditions. -/
import Derived.Test.YtfgcjcffplglhaaDLoadsWalk
import Derived.Test.YtfgcjcffplglhaaDkClone
import Derived.BigQuiet
namespace Go.Proofs.Ytfgcjcffplglhaa
open Go.RowKit
set_option linter.unusedVariables false

/-- A disk of four pages, with power, behind k acts. -/
structure ImgAt (d : Dk) (k : Nat) : Prop where
  free : d.free
  pages : d.pages = 4
  len : d.pend.length ≤ k
theorem ImgAt.mono {d : Dk} {k j : Nat} (h : ImgAt d k) (hj : k ≤ j) : ImgAt d j := ⟨h.free, h.pages, Nat.le_trans h.len hj⟩
theorem ImgAt.wr {d : Dk} {k : Nat} {n : Int} {b : List UInt8} (h : ImgAt d k) (h0 : 0 ≤ n) (h1 : n < 4) (hb : b.length = 512) : ImgAt (d.wr n b) (k + 1) := by
  rw [(h.free.wr h0 (by rw [h.pages]; exact h1) hb).2]
  refine ⟨h.free.push n b, h.pages, ?_⟩
  show (d.pend ++ [(n, b)]).length ≤ k + 1
  rw [List.length_append]
  have := h.len
  simpa using this
theorem ImgAt.sy {d : Dk} {k : Nat} (h : ImgAt d k) : ImgAt d.sy (k + 1) := by
  rw [h.free.sy.2]
  exact ⟨h.free.settled _, h.pages, Nat.zero_le _⟩
theorem sizeOp : (Try.prog.info? 33).map (·.size) = some 8 := by kernel_rfl
/-- The cells of an act. -/
def opCells (x : Opx) (bv kv : Value) (long : Bool) : List Value := [.int .i64 x.kind, .int .i64 x.n, .int .u8 (x.fill.toNat : Int), bv, .bool long, kv, .int .i64 x.torn, .int .i64 x.cut]

theorem below_drewN {B : Nat} {a w : World} (h : Below B a w) (n : Nat) : Below B a (w.drewN n) := h.trans ⟨rfl, rfl, rfl, Nat.le_refl _, fun _ _ => rfl⟩
theorem loaded_pend (l : List UInt8) : (loaded l).pend = [] := (loadTo_rest l _ _).2.1
theorem loaded_mended (l : List UInt8) (torn cut : Int) : (loaded l).mended [] torn cut = loaded l := by
  obtain ⟨h1, h2, h3, h4⟩ := loadTo_rest l (l.length / 512) (l.length / 512)
  unfold Dk.mended Dk.settled loaded
  generalize loadTo l (l.length / 512) (l.length / 512) = x at *
  obtain ⟨p, la, pe, a, dn⟩ := x
  simp only at h2 h3 h4
  subst h2 h3 h4
  rfl
theorem imgTo_slot {d : Dk} (h : d.ok) (j : Nat) : ∀ k, j < k → slot (imgTo d k) j = d.has (j : Int)
  | 0, hj => by omega
  | k + 1, hj => by
    show slot (imgTo d k ++ d.has (k : Int)) j = _
    have hl := imgTo_len h k
    by_cases e : j = k
    · subst e
      unfold slot
      rw [List.drop_append_of_le_length (by omega), List.drop_of_length_le (by omega), List.nil_append, List.take_of_length_le (by rw [h.has]; omega)]
    · have hjk : j * 512 + 512 ≤ (imgTo d k).length := by omega
      have h1 : j * 512 ≤ (imgTo d k).length := Nat.le_trans (Nat.le_add_right _ 512) hjk
      have h2 : 512 ≤ ((imgTo d k).drop (j * 512)).length := by rw [List.length_drop]; exact Nat.le_sub_of_add_le (by rw [Nat.add_comm]; exact hjk)
      rw [← imgTo_slot h j k (by omega)]
      generalize imgTo d k = I at *
      unfold slot
      rw [List.drop_append_of_le_length h1, List.take_append_of_le_length h2]
theorem img_slot {d : Dk} (h : d.ok) {j : Nat} (hj : j < d.pages) : slot d.img j = d.has (j : Int) := imgTo_slot h j _ hj
theorem img_len {d : Dk} (h : d.ok) : d.img.length = d.pages * 512 := imgTo_len h _
theorem loaded_reach {d : Dk} (h : d.ok) {n : Int} (h0 : 0 ≤ n) (h1 : n < d.pages) : (loaded d.img).reach n = 0 := by
  refine (loaded_free _).reach h0 ?_
  rw [show (loaded d.img).pages = d.img.length / 512 from (loadTo_rest _ _ _).1, img_len h]
  omega
/-- A disk, a disk of its image, a clone of it, and the image. -/
structure ImW (s : Nat) (w0 w : World) (db xb cb gi ci : Nat) (d : Dk) (a b : Nat) : Prop where
  bel : Below s w0 w
  pd : PD w db (fun _ => True) d
  px : PD w xb (fun k => a ≤ k ∧ k < b) (loaded d.img)
  pc : PD w cb (fun k => b ≤ k) d
  ow : OwnB w s (.slice (some ⟨gi, 0, none⟩) 2048 ci) d.img
  gi : gi < a
  sa : s ≤ a
  ab : a ≤ b
  bw : b ≤ w.heap.size
  at4 : d.pages = 4
  fr : d.free
theorem ImW.below {s : Nat} {w0 w w' : World} {db xb cb gi ci : Nat} {d : Dk} {a b : Nat} (h : ImW s w0 w db xb cb gi ci d a b) (B : Below w.heap.size w w') : ImW s w0 w' db xb cb gi ci d a b :=
  ⟨h.bel.trans (B.mono (Nat.le_trans h.sa (Nat.le_trans h.ab h.bw))), h.pd.below B, h.px.below B, h.pc.below B, h.ow.below B, h.gi, h.sa, h.ab, Nat.le_trans h.bw B.size, h.at4, h.fr⟩
theorem QP.imaged {s : Nat} {w0 w : World} {db : Nat} {d : Dk} {ps : List (Nat × List UInt8)} (h : QP s w0 w db d ps) (h4 : d.pages = 4) :
    Calls Try.prog 22 #[.pointer (some ⟨db, 0, none⟩)] w fun e w' => ∃ gi ci, e = .returned (.slice (some ⟨gi, 0, none⟩) 2048 ci) ∧ 2048 ≤ ci ∧ OwnB w' s (.slice (some ⟨gi, 0, none⟩) 2048 ci) d.img ∧ Below w.heap.size w w' := by
  have hl := img_len h.1.okk
  rw [h4] at hl
  refine h.1.image.mono ?_
  rintro e w' ⟨v, rfl, O, B⟩
  obtain ⟨g, c, rfl, h1, h2⟩ := own_is O (by omega)
  rw [hl] at O h2 ⊢
  exact ⟨g, c, rfl, h2, own_base O h.1.size, B⟩
theorem im_load {s : Nat} {w : World} {gi ci : Nat} {d : Dk} (O : OwnB w s (.slice (some ⟨gi, 0, none⟩) 2048 ci) d.img) (hc : 2048 ≤ ci) (hl : d.img.length = 2048) :
    Calls Try.prog 25 #[.slice (some ⟨gi, 0, none⟩) 2048 ci] w fun e w' => e = .returned (.tuple #[.pointer (some ⟨w.heap.size + 2, 0, none⟩), .int .i64 0]) ∧ PD w' (w.heap.size + 2) (fun k => w.heap.size ≤ k ∧ k < w'.heap.size) (loaded d.img) ∧ Below w.heap.size w w' := by
  have t := load_ok d.img (some ⟨gi, 0, none⟩) ci w (by omega) (by omega) (by omega) (by omega) (own_byts O)
  rw [hl] at t
  exact t
theorem im_clone {s : Nat} {w0 w6 w7 : World} {db xb gi ci : Nat} {d : Dk} (h : DW s w0 w6 db d (fun _ => False)) (O : OwnB w6 s (.slice (some ⟨gi, 0, none⟩) 2048 ci) d.img) (P : PD w7 xb (fun k => w6.heap.size ≤ k ∧ k < w7.heap.size) (loaded d.img)) (B : Below w6.heap.size w6 w7) (h4 : d.pages = 4) (hf : d.free) (hm : d.pend.length < 1000000) :
    Calls Try.prog 11 #[.pointer (some ⟨db, 0, none⟩)] w7 fun e w' => e = .returned (.pointer (some ⟨w7.heap.size, 0, none⟩)) ∧ ImW s w0 w' db xb w7.heap.size gi ci d w6.heap.size w7.heap.size := by
  obtain ⟨lb, nb, pv, D, hD⟩ := (h.grow B).pd
  refine (clone_any db lb nb pv d w7 D hm).mono ?_
  rintro e w' ⟨lb', nb', pv', rfl, D', B', hn⟩
  exact ⟨rfl, (h.grow B).bel.trans (B'.mono (h.grow B).size), ⟨lb, nb, pv, D.below B', fun _ _ => trivial⟩, P.below B', ⟨lb', nb', pv', D', hn⟩, (O.below B).below B', (World.ownsRow.lt O gi rfl).2, h.size, B.size, B'.size, h4, hf⟩
/-- Behind the mend of the loaded disk. -/
structure ImE (s : Nat) (w0 w : World) (xb cb gi ci : Nat) (d : Dk) : Prop where
  bel : Below s w0 w
  sz : s ≤ w.heap.size
  px : PD w xb (fun _ => True) (loaded d.img)
  pc : PD w cb (fun _ => True) d
  ow : OwnB w s (.slice (some ⟨gi, 0, none⟩) 2048 ci) d.img
  at4 : d.pages = 4
theorem ImE.below {s : Nat} {w0 w w' : World} {xb cb gi ci : Nat} {d : Dk} (h : ImE s w0 w xb cb gi ci d) (B : Below w.heap.size w w') : ImE s w0 w' xb cb gi ci d :=
  ⟨h.bel.trans (B.mono h.sz), Nat.le_trans h.sz B.size, h.px.below B, h.pc.below B, h.ow.below B, h.at4⟩
theorem ImW.mend {s : Nat} {w0 w : World} {db xb cb gi ci : Nat} {d : Dk} {a b : Nat} (h : ImW s w0 w db xb cb gi ci d a b) :
    Calls Try.prog 14 #[.pointer (some ⟨xb, 0, none⟩), .slice none 0 0, .int .i64 (-1), .int .i64 0] w fun e w' => e = .returned (.tuple #[]) ∧ ImE s w0 w' xb cb gi ci d := by
  refine (mendD xb _ _ none [] 0 (-1) 0 w h.px (by rw [loaded_pend]; simp) (Or.inl rfl) (fun h => absurd rfl h)).mono ?_
  rintro e w' ⟨he, P, C⟩
  rw [loaded_mended] at P
  have hs : s ≤ w.heap.size := Nat.le_trans h.sa (Nat.le_trans h.ab h.bw)
  exact ⟨he, h.bel.trans (C.below (fun k f => Nat.le_trans h.sa f.1) hs), Nat.le_trans hs C.size, P.mono (fun _ _ _ => trivial), (h.pc.chg C (fun k f g => by omega)).mono (fun _ _ _ => trivial), own_same h.ow (fun k hk => C.block k (World.ownsRow.lt h.ow k hk).2 (fun f => by have := h.gi; simp only [Value.ownBlock, Option.some.injEq] at hk; omega)), h.at4⟩
theorem ImE.imgX {s : Nat} {w0 w : World} {xb cb gi ci : Nat} {d : Dk} (h : ImE s w0 w xb cb gi ci d) :
    Calls Try.prog 22 #[.pointer (some ⟨xb, 0, none⟩)] w fun e w' => (∃ p c, e = .returned (.slice p d.img.length c) ∧ Byts w' p d.img) ∧ ImE s w0 w' xb cb gi ci d := by
  obtain ⟨lb, nb, pv, P, _⟩ := h.px
  refine (image_any xb lb nb pv _ w P).mono ?_
  rintro e w' ⟨v, rfl, O, B⟩
  rw [loaded_img (by rw [img_len h.pc.okk]; omega)] at O
  obtain ⟨p, c, rfl, hb, _⟩ := O.byts
  exact ⟨⟨p, c, rfl, hb⟩, h.below B⟩
theorem ImE.imgC {s : Nat} {w0 w : World} {xb cb gi ci : Nat} {d : Dk} (h : ImE s w0 w xb cb gi ci d) :
    Calls Try.prog 22 #[.pointer (some ⟨cb, 0, none⟩)] w fun e w' => (∃ p c, e = .returned (.slice p d.img.length c) ∧ Byts w' p d.img) ∧ ImE s w0 w' xb cb gi ci d := by
  obtain ⟨lb, nb, pv, P, _⟩ := h.pc
  refine (image_any cb lb nb pv _ w P).mono ?_
  rintro e w' ⟨v, rfl, O, B⟩
  obtain ⟨p, c, rfl, hb, _⟩ := O.byts
  exact ⟨⟨p, c, rfl, hb⟩, h.below B⟩
theorem ImE.pendX {s : Nat} {w0 w : World} {xb cb gi ci : Nat} {d : Dk} (h : ImE s w0 w xb cb gi ci d) :
    Calls Try.prog 20 #[.pointer (some ⟨xb, 0, none⟩)] w fun e w' => e = .returned (.slice (some ⟨w.heap.size, 0, none⟩) 0 0) ∧ ImE s w0 w' xb cb gi ci d := by
  obtain ⟨lb, nb, pv, P, _⟩ := h.px
  refine (pend_any xb lb nb pv _ w P (by rw [loaded_pend]; simp)).mono ?_
  rintro e w' ⟨rfl, _, B, _⟩
  rw [loaded_pend]
  exact ⟨rfl, h.below B⟩
theorem ImE.conv {s : Nat} {w0 w : World} {xb cb gi ci : Nat} {d : Dk} (h : ImE s w0 w xb cb gi ci d) : (convert 30 9 (.slice (some ⟨gi, 0, none⟩) 2048 ci)).run Try.prog w = .ok (.string ⟨d.img.toArray⟩) w := by
  have t := conv_byts ci (own_byts h.ow)
  rw [img_len h.pc.okk, h.at4] at t
  exact t
theorem ImW.readD {s : Nat} {w0 w : World} {db xb cb gi ci : Nat} {d : Dk} {a b : Nat} (h : ImW s w0 w db xb cb gi ci d a b) {k : Nat} (hk : k < 4) :
    Calls Try.prog 29 #[.pointer (some ⟨db, 0, none⟩), .int .i64 (k : Int)] w fun e w' => e = .returned (.tuple #[.slice (some ⟨w.heap.size + 1, 0, none⟩) 512 512, .int .i64 0]) ∧ Pg w' (w.heap.size + 1) (d.has (k : Int)) ∧ Below w.heap.size w w' :=
  (Go.Proofs.Ytfgcjcffplglhaa.readD db _ d k w h.pd (h.fr.reach (by omega) (by rw [h.at4]; omega))).mono (fun _ _ x => ⟨x.1, x.2.1, x.2.2.1⟩)
theorem ImW.readX {s : Nat} {w0 w : World} {db xb cb gi ci : Nat} {d : Dk} {a b : Nat} (h : ImW s w0 w db xb cb gi ci d a b) {k : Nat} (hk : k < 4) :
    Calls Try.prog 29 #[.pointer (some ⟨xb, 0, none⟩), .int .i64 (k : Int)] w fun e w' => e = .returned (.tuple #[.slice (some ⟨w.heap.size + 1, 0, none⟩) 512 512, .int .i64 0]) ∧ Pg w' (w.heap.size + 1) (d.has (k : Int)) ∧ Below w.heap.size w w' := by
  refine (Go.Proofs.Ytfgcjcffplglhaa.readD xb _ _ k w h.px (loaded_reach h.pd.okk (by omega) (by rw [h.at4]; omega))).mono ?_
  rintro e w' ⟨he, P, B, _⟩
  rw [loaded_has (by rw [img_len h.pd.okk, h.at4]; omega), img_slot h.pd.okk (by rw [h.at4]; exact hk)] at P
  exact ⟨he, P, B⟩
theorem ImW.slotC {s : Nat} {w0 w : World} {db xb cb gi ci : Nat} {d : Dk} {a b : Nat} (h : ImW s w0 w db xb cb gi ci d a b) {k : Nat} (hk : k < 4) (c : Nat) : (convert 30 9 (.slice (some ⟨gi, k * 512, none⟩) 512 c)).run Try.prog w = .ok (.string ⟨(d.has (k : Int)).toArray⟩) w := by
  have t := conv_byts c (slot_byts (own_byts h.ow) k)
  rw [img_slot h.pd.okk (by rw [h.at4]; exact hk), h.pd.okk.has, Nat.zero_add] at t
  exact t
theorem pg_conv {w : World} {g : Nat} {l : List UInt8} (h : Pg w g l) (hl : l.length = 512) (c : Nat) : (convert 30 9 (.slice (some ⟨g, 0, none⟩) 512 c)).run Try.prog w = .ok (.string ⟨l.toArray⟩) w := by
  have t := conv_byts c h.blk.byts
  rw [hl] at t
  exact t

set_option maxRecDepth 20000 in
set_option maxHeartbeats 4000000 in
theorem dimages_walk (l : List Opx) (lp : Option Addr) (lc : Nat) (w : World) (hl : l.length ≤ maxLen) (hL : Ops w lp l) :
    Calls Try.prog 8 #[.slice lp l.length lc] w fun e w' => e = .returned (.bool true) ∧ Below w.heap.size w w' := by
  have HWk := hid (works_any w)
  have HL := hid hL
  clear hL
  have HNw : Hid (∀ w1 : World, Calls Try.prog 9 #[.int .i64 4] w1 fun e w' => e = .returned (.tuple #[.pointer (some ⟨w1.heap.size + 2, 0, none⟩), .int .i64 0]) ∧ PD w' (w1.heap.size + 2) (fun k => w1.heap.size ≤ k ∧ k < w'.heap.size) (Dk.fresh 4) ∧ w'.heap.size = w1.heap.size + 3 ∧ Below w1.heap.size w1 w') := fun w1 => newD 4 w1 (by omega) (by omega)
  go_enter Try.func8, Try.ntmps8
  go_wp2_with (first
    | (go_at_call 24; (with_reducible refine HWk.out.mono ?_); rintro e w1 ⟨rfl, B1⟩; have HB1 := hid B1; clear B1 HWk)
    | (go_at_call 9; (with_reducible refine (HNw.out _).mono ?_); rintro e w2 ⟨rfl, P2, S2, B2⟩; have HQ2 := hid (QP.start P2 B2 HB1.out.size HB1.out); clear P2 S2 B2)
    | fail)
  clear HNw
  generalize w1.heap.size + 2 = db at *
  go_loopw [5] (fun i wr => ∃ (k : Nat) (d : Dk), i = .int .i64 (k : Int) ∧ k ≤ 40 ∧ QP w.heap.size w wr db d [] ∧ ImgAt d k) (fun i _ => 40 - (RowKit.intOf i).toNat)
  case atStart => exact ⟨0, _, rfl, by omega, HQ2.out, ⟨Dk.fresh_free 4, rfl, Nat.le_refl _⟩⟩
  case round =>
    clear HQ2
    obtain ⟨k, d, rfl, hk, hQ, hS⟩ := hrel
    have HQ := hid hQ
    have HS := hid hS
    have hBw := hQ.1.bel
    by_cases hx : k < l.length ∧ k < 40
    · obtain ⟨hx1, hx2⟩ := hx
      obtain ⟨g, off, rfl, bp, bc, kp, kc, c0, c1, c2, c3, c4, c5, c6, c7, hby, _⟩ := (HL.out.below hBw).at hx1
      have hx2' : (k : Int) < 40 := by omega
      by_cases hk1 : l[k].kind = 1
      · obtain ⟨r, hr⟩ : ∃ r, wrap64 ((IntKind.u64.wrap l[k].n).tmod 4) = r := ⟨_, rfl⟩
        have hrb := umod_bd l[k].n 4 (by omega) (by omega)
        rw [hr] at hrb
        obtain ⟨hr0, hr1⟩ := hrb
        have hr' : IntKind.i64.wrap ((IntKind.u64.wrap l[k].n).tmod 4) = r := by rw [IntKind.wrap_i64]; rw [← hr]; unfold wrap64; omega
        have HBc := hid (Blk.new wr (opCells l[k] (.slice bp l[k].b.length bc) (.slice kp l[k].keep.length kc) false) 33)
        have HBB : Hid (Below wr.heap.size wr (wr.alloc (.cells (opCells l[k] (.slice bp l[k].b.length bc) (.slice kp l[k].keep.length kc) false).toArray 33))) := (Below.refl _ _).alloc (Nat.le_refl _) _
        have HI : Hid ((Try.prog.info? 33).map (·.size) = some (#[Value.int .i64 l[k].kind, .int .i64 l[k].n, .int .u8 (l[k].fill.toNat : Int), .slice bp l[k].b.length bc, .bool l[k].long, .slice kp l[k].keep.length kc, .int .i64 l[k].torn, .int .i64 l[k].cut] : Array Value).size) := sizeOp
        have HO : Hid ((#[Value.int .i64 l[k].kind, .int .i64 l[k].n, .int .u8 (l[k].fill.toNat : Int), .slice bp l[k].b.length bc, .bool l[k].long, .slice kp l[k].keep.length kc, .int .i64 l[k].torn, .int .i64 l[k].cut] : Array Value).all (·.oneCell') = true) := by
          show _ = _
          refine Array.all_eq_true_iff_forall_mem.2 (fun v hv => ?_)
          simp only [List.mem_toArray, List.mem_cons, List.not_mem_nil, or_false] at hv
          rcases hv with rfl | rfl | rfl | rfl | rfl | rfl | rfl | rfl <;> rfl
        have HSn : Hid (ImgAt (d.wr r (pageM l[k].fill l[k].b 512)) (k + 1)) := hS.wr hr0 hr1 (pageM_len ..)
        have HPg : Hid (∀ w5 : World, Byts w5 bp l[k].b → Calls Try.prog 27 #[.agg #[.int .i64 l[k].kind, .int .i64 l[k].n, .int .u8 (l[k].fill.toNat : Int), .slice bp l[k].b.length bc, .bool false, .slice kp l[k].keep.length kc, .int .i64 l[k].torn, .int .i64 l[k].cut]] w5 fun e w' => e = .returned (.slice (some ⟨w5.heap.size + 1, 0, none⟩) 512 512) ∧ Blk w' (w5.heap.size + 1) (bcells (pageM l[k].fill l[k].b 512)) 5 ∧ Below w5.heap.size w5 w' ∧ w'.heap.size = w5.heap.size + 2) := fun w5 hb => page_512 _ _ _ bp _ bc _ _ _ w5 hb
        have HBy := hid hby
        have HWr : Hid (∀ (w6 : World) (g6 : Nat) Z, DW w.heap.size w w6 db d Z → Z g6 → Blk w6 g6 (bcells (pageM l[k].fill l[k].b 512)) 5 → Calls Try.prog 12 #[.pointer (some ⟨db, 0, none⟩), .int .i64 r, .slice (some ⟨g6, 0, none⟩) 512 512] w6 fun e w' => (∃ x, e = .returned (.int .i64 x)) ∧ DW w.heap.size w w' db (d.wr r (pageM l[k].fill l[k].b 512)) Z ∧ Kept (old w.heap.size Z) w6 w') := fun w6 g6 Z D hz b => by
          have t := D.write r (some ⟨g6, 0, none⟩) _ 512 b.byts (fun g' o' e => by simp only [Option.some.injEq, Addr.mk.injEq] at e; rw [← e.1]; exact Or.inr (Or.inl hz)) (by have := hS.len; omega)
          rw [pageM_len] at t
          exact t.mono (fun e w' ⟨a, b, c⟩ => ⟨⟨_, a⟩, b, c⟩)
        clear hQ hS hBw hby
        unfold opCells at HBc HBB
        rw [hk1] at c0 HBc HBB HI HO HPg
        generalize l[k].n = ln at *
        generalize l[k].fill = lf at *
        generalize l[k].b = lb0 at *
        generalize l[k].long = lo at *
        generalize l[k].keep = lke at *
        generalize l[k].torn = lt at *
        generalize l[k].cut = lcu at *
        go_wp2_with (first
          | (refine wl_store_new rfl 33 _ _ rfl _ _ _ rfl ?hg rfl ?hi ?hj ?ho ?_; (case hg => rfl); (case hi => exact HI.out); (case hj => rfl); (case ho => exact HO.out); try go_frame)
          | fail)
        have HD3 := hid (HQ.out.1.add HBB.out)
        have HZ3' : Hid ((∃ x ∈ ([] : List (Nat × List UInt8)), x.1 = wr.heap.size) ∨ (wr.heap.size ≤ wr.heap.size ∧ wr.heap.size < ((wr.alloc (.cells #[Value.int .i64 1, .int .i64 ln, .int .u8 (lf.toNat : Int), .slice bp lb0.length bc, .bool false, .slice kp lke.length kc, .int .i64 lt, .int .i64 lcu] 33))).heap.size)) := Or.inr ⟨Nat.le_refl _, HBc.out.lt⟩
        have HB3 := hid (HBy.out.kept (fun k hk => HBB.out.block k hk))
        clear HBB HI HO c0 c1 c2 c3 c4 c5 c6 c7
        generalize (wr.alloc (.cells #[Value.int .i64 1, .int .i64 ln, .int .u8 (lf.toNat : Int), .slice bp lb0.length bc, .bool false, .slice kp lke.length kc, .int .i64 lt, .int .i64 lcu] 33)) = w3 at *
        have HZ3 : Hid ((fun k => (∃ x ∈ ([] : List (Nat × List UInt8)), x.1 = k) ∨ (wr.heap.size ≤ k ∧ k < w3.heap.size)) wr.heap.size) := HZ3'.out
        clear HZ3'
        generalize (fun k => (∃ x ∈ ([] : List (Nat × List UInt8)), x.1 = k) ∨ (wr.heap.size ≤ k ∧ k < w3.heap.size)) = Z3 at *
        have HC8 : Hid (∀ w' : World, Blk w' wr.heap.size [Value.int .i64 1, .int .i64 ln, .int .u8 (lf.toNat : Int), .slice bp lb0.length bc, .bool false, .slice kp lke.length kc, .int .i64 lt, .int .i64 lcu] 33 → w'.cell? ⟨wr.heap.size, 0, none⟩ = some (.int .i64 1) ∧ w'.cell? ⟨wr.heap.size, 1, none⟩ = some (.int .i64 ln) ∧ w'.cell? ⟨wr.heap.size, 2, none⟩ = some (.int .u8 (lf.toNat : Int)) ∧ w'.cell? ⟨wr.heap.size, 3, none⟩ = some (.slice bp lb0.length bc) ∧ w'.cell? ⟨wr.heap.size, 4, none⟩ = some (.bool false) ∧ w'.cell? ⟨wr.heap.size, 5, none⟩ = some (.slice kp lke.length kc) ∧ w'.cell? ⟨wr.heap.size, 6, none⟩ = some (.int .i64 lt) ∧ w'.cell? ⟨wr.heap.size, 7, none⟩ = some (.int .i64 lcu)) := fun w' b => ⟨b.cell 0, b.cell 1, b.cell 2, b.cell 3, b.cell 4, b.cell 5, b.cell 6, b.cell 7⟩
        have HS3 := hid (HC8.out w3 HBc.out)
        have HS3' := hid (HC8.out w3.drew HBc.out)
        have HP3 := hid (HPg.out w3.drew HB3.out)
        go_region_held_law (fun w' => w'.cell? ⟨wr.heap.size, 0, none⟩ = some (.int .i64 1) ∧ w'.cell? ⟨wr.heap.size, 1, none⟩ = some (.int .i64 ln) ∧ w'.cell? ⟨wr.heap.size, 2, none⟩ = some (.int .u8 (lf.toNat : Int)) ∧ w'.cell? ⟨wr.heap.size, 3, none⟩ = some (.slice bp lb0.length bc) ∧ w'.cell? ⟨wr.heap.size, 4, none⟩ = some (.bool false) ∧ w'.cell? ⟨wr.heap.size, 5, none⟩ = some (.slice kp lke.length kc) ∧ w'.cell? ⟨wr.heap.size, 6, none⟩ = some (.int .i64 lt) ∧ w'.cell? ⟨wr.heap.size, 7, none⟩ = some (.int .i64 lcu)) (first | exact HS3.out | exact HS3'.out | exact HS6.out | exact HS7.out)
          ((first
            | (go_at_call 27; go_loud ((with_reducible refine HP3.out.mono ?_); rintro e w6 ⟨rfl, G6, B6, S6⟩; have HD6 := hid ((HD3.out.grow (Below.refl _ _).drew).add B6); have HK6 := hid (HBc.out.below ((Below.refl _ _).drew.trans B6) HBc.out.lt); have HS6 := hid (HC8.out w6 HK6.out); have HW6 := hid (HWr.out w6 (w3.heap.size + 1) _ HD6.out (Or.inr ⟨Nat.le_succ _, G6.lt⟩) G6); clear G6 B6 S6))
            | (go_at_call 12; go_loud ((with_reducible refine HW6.out.mono ?_); rintro e w7 ⟨⟨x7, rfl⟩, D7, K7⟩; have HS7 := hid (HC8.out w7 (K7.blk HK6.out (Or.inr (Or.inl HZ3.out)))); have HQ7 : Hid (QP w.heap.size w w7 db (d.wr r (pageM lf lb0 512)) []) := ⟨D7.less (fun k hk => by obtain ⟨_, h, _⟩ := hk; cases h), fun x hx => by cases hx⟩; clear D7 K7))
            | fail))
        all_goals go_wp2
        all_goals go_roundw
        all_goals first
          | exact ⟨k + 1, _, by go_num, by omega, HQ7.out, HSn.out⟩
          | (simp [RowKit.intOf]; omega)
      · by_cases hk2 : l[k].kind = 2
        · have HSy : Hid (Calls Try.prog 13 #[.pointer (some ⟨db, 0, none⟩)] wr fun e w' => e = .returned (.int .i64 d.syErr) ∧ QP w.heap.size w w' db d.sy []) := hQ.sync (by have := hS.len; omega)
          have HSn := hid hS.sy
          rw [hk2] at c0
          clear hQ hS hBw c1 c2 c3 c4 c5 c6 c7 hby
          go_wp2_with (first
            | (go_at_call 13; go_loud ((with_reducible refine HSy.out.mono ?_); rintro e w7 ⟨rfl, Q7⟩; have HQ7 := hid Q7; clear Q7))
            | fail)
          go_roundw
          case rel => exact ⟨k + 1, _, by go_num, by omega, HQ7.out, HSn.out⟩
          case measure => simp [RowKit.intOf]; omega
        · have hb1 : (l[k].kind == 1) = false := by simpa using hk1
          have hb2 : (l[k].kind == 2) = false := by simpa using hk2
          generalize l[k].kind = lk0 at *
          clear hQ hS hBw c1 c2 c3 c4 c5 c6 c7 hby
          go_wp2
          go_roundw
          case rel => exact ⟨k + 1, d, by go_num, by omega, HQ.out, HS.out.mono (by omega)⟩
          case measure => simp [RowKit.intOf]; omega
    · have hxx : l.length ≤ k ∨ (k < l.length ∧ ¬ ((k : Int) < 40)) := by omega
      have HI := hid (hQ.imaged hS.pages)
      have HLn : Hid (d.img.length = 2048) := by have := img_len hQ.1.okk; rw [hS.pages] at this; exact this
      have HPl : Hid (d.pend.length < 1000000) := by have := hS.len; show _ < _; omega
      have HLd : Hid (∀ (w6 : World) (gi ci : Nat), OwnB w6 w.heap.size (.slice (some ⟨gi, 0, none⟩) 2048 ci) d.img → 2048 ≤ ci → Calls Try.prog 25 #[.slice (some ⟨gi, 0, none⟩) 2048 ci] w6 fun e w' => e = .returned (.tuple #[.pointer (some ⟨w6.heap.size + 2, 0, none⟩), .int .i64 0]) ∧ PD w' (w6.heap.size + 2) (fun k => w6.heap.size ≤ k ∧ k < w'.heap.size) (loaded d.img) ∧ Below w6.heap.size w6 w') := fun w6 gi ci O hc => im_load O hc HLn.out
      clear hQ hS hBw hx
      rcases hxx with hxx | ⟨hxx, hxi⟩
      all_goals (
        go_wp2_with (first
          | (go_at_call 22; go_loud ((with_reducible refine HI.out.mono ?_); rintro e w6 ⟨gi, ci, rfl, hci, O6, B6⟩; have HL6 := hid (HLd.out w6 gi ci O6 hci); have HO6 := hid O6; have HD6 := hid ((HQ.out.1.grow B6).less (Y := fun _ => False) (fun k hk => hk.elim)); clear O6 B6 HI))
          | (go_at_call 25; go_loud ((with_reducible refine HL6.out.mono ?_); rintro e w7 ⟨rfl, P7, B7⟩; have HC7 := hid (im_clone HD6.out HO6.out P7 B7 HS.out.pages HS.out.free HPl.out); clear P7 B7))
          | (go_at_call 11; go_loud ((with_reducible refine HC7.out.mono ?_); rintro e w8 ⟨rfl, W8⟩; have HW8 := hid W8; clear W8))
          | fail)
        clear HD6 HO6 HL6 HC7 HLd HQ HLn HPl
        generalize w6.heap.size + 2 = xb at *
        generalize w6.heap.size = ha at *
        generalize w7.heap.size = cb at *
        go_loopw [11] (fun i wr => ∃ k : Nat, i = .int .i64 (k : Int) ∧ k ≤ 4 ∧ ImW w.heap.size w wr db xb cb gi ci d ha cb) (fun i _ => 4 - (RowKit.intOf i).toNat)
        case atStart => exact ⟨0, rfl, by omega, HW8.out⟩
        case round =>
          clear HW8
          obtain ⟨j, rfl, hj, hW⟩ := hrel
          have HW := hid hW
          by_cases hx : j < 4
          · have HR1 := hid (hW.readD hx)
            have HR2 : Hid (∀ w9 : World, ImW w.heap.size w w9 db xb cb gi ci d ha cb → Calls Try.prog 29 #[.pointer (some ⟨xb, 0, none⟩), .int .i64 (j : Int)] w9 fun e w' => e = .returned (.tuple #[.slice (some ⟨w9.heap.size + 1, 0, none⟩) 512 512, .int .i64 0]) ∧ Pg w' (w9.heap.size + 1) (d.has (j : Int)) ∧ Below w9.heap.size w9 w') := fun w9 h => h.readX hx
            have HH : Hid ((d.has (j : Int)).length = 512) := hW.pd.okk.has _
            clear hW
            go_wp2_with (first
              | (go_at_call 29; first
                  | ((with_reducible refine HR1.out.mono ?_); rintro e w9 ⟨rfl, P9, B9⟩; have HW9 := hid (HW.out.below B9); have HP9 := hid P9; have HR9 := hid (HR2.out w9 HW9.out); clear P9 B9 HR1)
                  | ((with_reducible refine HR9.out.mono ?_); rintro e w10 ⟨rfl, P10, B10⟩; have HW10 := hid (HW9.out.below B10); have HPa := hid (HP9.out.below B10 HP9.out.blk.lt); have HPb := hid P10; clear P10 B10 HR9))
              | fail)
            have v1 : ∀ n, (convert 30 9 (.slice (some ⟨wr.heap.size + 1, 0, none⟩) 512 512)).run Try.prog (w10.drewN n) = .ok (.string ⟨(d.has (j : Int)).toArray⟩) (w10.drewN n) := fun n => pg_conv (show Pg (w10.drewN n) (wr.heap.size + 1) (d.has (j : Int)) from HPa.out) HH.out 512
            have v2 : ∀ n, (convert 30 9 (.slice (some ⟨w9.heap.size + 1, 0, none⟩) 512 512)).run Try.prog (w10.drewN n) = .ok (.string ⟨(d.has (j : Int)).toArray⟩) (w10.drewN n) := fun n => pg_conv (show Pg (w10.drewN n) (w9.heap.size + 1) (d.has (j : Int)) from HPb.out) HH.out 512
            have hj4 : (j : Int) < 4 := by omega
            have hw1 : IntKind.i64.wrap (512 * (j : Int)) = 512 * (j : Int) := by rw [IntKind.wrap_i64]; omega
            have hw2 : IntKind.i64.wrap (512 * (j : Int) + 512) = 512 * (j : Int) + 512 := by rw [IntKind.wrap_i64]; omega
            have v4 : ∀ n, (convert 30 9 (.slice (some ⟨gi, 512 * j, none⟩) 512 (ci - 512 * j))).run Try.prog (w10.drewN n) = .ok (.string ⟨(d.has (j : Int)).toArray⟩) (w10.drewN n) := fun n => by
              have t := (HW10.out.below (below_drewN (Below.refl _ _) n)).slotC hx (ci - 512 * j)
              rwa [Nat.mul_comm j 512] at t
            clear HPa HPb HP9
            go_quiet (fail)
            go_wp2
            go_roundw
            case rel => exact ⟨j + 1, by go_num, by omega, HW10.out.below (below_drewN (Below.refl _ _) _)⟩
            case measure => simp [RowKit.intOf]; omega
          · obtain rfl : j = 4 := by omega
            have HM := hid hW.mend
            clear hW hj hx
            go_wp2_with (first
              | (go_at_call 14; go_loud ((with_reducible refine HM.out.mono ?_); rintro e w11 ⟨rfl, E11⟩; have HE11 := hid E11; clear E11))
              | fail)
            have HX : Hid (Calls Try.prog 22 #[.pointer (some ⟨xb, 0, none⟩)] w11.drew fun e w' => (∃ p c, e = .returned (.slice p d.img.length c) ∧ Byts w' p d.img) ∧ ImE w.heap.size w w' xb cb gi ci d) := (HE11.out.below (Below.refl _ _).drew).imgX
            have cvd : Hid ((convert 30 9 (.slice (some ⟨gi, 0, none⟩) 2048 ci)).run Try.prog w11.drew = .ok (.string ⟨d.img.toArray⟩) w11.drew) := (HE11.out.below (Below.refl _ _).drew).conv
            have HCf : Hid (∀ w9 : World, ImE w.heap.size w w9 xb cb gi ci d → Calls Try.prog 22 #[.pointer (some ⟨cb, 0, none⟩)] w9 fun e w' => (∃ p c, e = .returned (.slice p d.img.length c) ∧ Byts w' p d.img) ∧ ImE w.heap.size w w' xb cb gi ci d) := fun w9 h => h.imgC
            have HPf : Hid (∀ w9 : World, ImE w.heap.size w w9 xb cb gi ci d → Calls Try.prog 20 #[.pointer (some ⟨xb, 0, none⟩)] w9 fun e w' => e = .returned (.slice (some ⟨w9.heap.size, 0, none⟩) 0 0) ∧ ImE w.heap.size w w' xb cb gi ci d) := fun w9 h => h.pendX
            go_region_held_law (fun w' => (convert 30 9 (.slice (some ⟨gi, 0, none⟩) 2048 ci)).run Try.prog w' = .ok (.string ⟨d.img.toArray⟩) w') (first | exact cvd.out | exact HK12.out | exact HK13.out | exact HK14.out)
              ((first
                | (go_at_call 22; first
                    | ((with_reducible refine HX.out.mono ?_); rintro e w12 ⟨⟨pi, pc, rfl, y12⟩, E12⟩; have u12 := conv_byts pc y12; have HK12 := hid E12.conv; have HC12 := hid (HCf.out w12 E12); clear y12 E12)
                    | ((with_reducible refine HC12.out.mono ?_); rintro e w13 ⟨⟨pj, pd, rfl, y13⟩, E13⟩; have u13 := conv_byts pd y13; have HK13 := hid E13.conv; have HP13 := hid (HPf.out w13 E13); clear y13 E13))
                | (go_at_call 20; go_loud ((with_reducible refine HP13.out.mono ?_); rintro e w14 ⟨rfl, E14⟩; have HK14 := hid E14.conv; have HE14 := hid E14; clear E14))
                | fail))
            all_goals go_wp2
            all_goals go_ret
            all_goals exact ⟨rfl, HE14.out.bel⟩)
end Go.Proofs.Ytfgcjcffplglhaa
