/- Nodes are copied: toTrie. -/
import Derived.Test.YtcanhkngikeeiaaN1
namespace Go.Proofs.Ytcanhkngikeeiaa
open Go.RowKit
set_option linter.unusedVariables false

/-- A copy of a node: its lists lie in blocks of their own. -/
def NewNode (n : Node) (w : World) (e : Ending) (w' : World) : Prop :=
  ∃ p q, e = .returned (.agg #[.int .i64 n.byte, .slice (some ⟨p, 0, none⟩) n.kids.length n.kids.length, .slice (some ⟨q, 0, none⟩) n.ids.length n.ids.length]) ∧ w.heap.size ≤ p ∧ w.heap.size ≤ q ∧ Own w' p 3 (ints n.kids) ∧ Own w' q 3 (ints n.ids) ∧ Below w.heap.size w w'

set_option maxRecDepth 100000 in
set_option maxHeartbeats 1000000 in
theorem toT_any (n : Node) (K : Option Addr) (kc : Nat) (J : Option Addr) (jc : Nat) (w : World) (hk : Row w K (ints n.kids)) (hj : Row w J (ints n.ids)) (h1 : n.kids.length ≤ 1048576) (h2 : n.ids.length ≤ 1048576) :
    Calls Try.prog 76 #[.agg #[.int .i64 n.byte, .slice K n.kids.length kc, .slice J n.ids.length jc]] w (NewNode n w) := by
  have HK := Lib.hid hk
  have HJ := Lib.hid hj
  clear hk hj
  go_enter Try.func76, Try.ntmps76
  go_wp2_with fail
  have oA := ((Own.new w 97 #[.int .i64 n.byte, .slice K n.kids.length kc, .slice J n.ids.length jc]).alloc (.cells #[.int .i64 0, .slice none 0 0, .slice none 0 0] 46)).alloc (.cells #[.int .i64 n.byte, .slice none 0 0, .slice none 0 0] 46)
  have oB := (Own.new (w.alloc (.cells #[.int .i64 n.byte, .slice K n.kids.length kc, .slice J n.ids.length jc] 97)) 46 #[.int .i64 0, .slice none 0 0, .slice none 0 0]).alloc (.cells #[.int .i64 n.byte, .slice none 0 0, .slice none 0 0] 46)
  have oC := Own.new ((w.alloc (.cells #[.int .i64 n.byte, .slice K n.kids.length kc, .slice J n.ids.length jc] 97)).alloc (.cells #[.int .i64 0, .slice none 0 0, .slice none 0 0] 46)) 46 #[.int .i64 n.byte, .slice none 0 0, .slice none 0 0]
  have bel := (((below_box (w := w) (.cells #[.int .i64 n.byte, .slice K n.kids.length kc, .slice J n.ids.length jc] 97))).alloc (by simp) (.cells #[.int .i64 0, .slice none 0 0, .slice none 0 0] 46)).alloc (by simp; omega) (.cells #[.int .i64 n.byte, .slice none 0 0, .slice none 0 0] 46)
  simp at oB oC
  generalize hW3 : ((w.alloc (.cells #[.int .i64 n.byte, .slice K n.kids.length kc, .slice J n.ids.length jc] 97)).alloc (.cells #[.int .i64 0, .slice none 0 0, .slice none 0 0] 46)).alloc (.cells #[.int .i64 n.byte, .slice none 0 0, .slice none 0 0] 46) = W3 at oA oB oC bel ⊢
  clear hW3
  refine (toI_any K kc n.kids _ (HK.out.keep bel) h1).mono ?_
  rintro e w1 ⟨p, rfl, hp, op, hb⟩
  have a1 := oA.keep hb
  have b1 := oB.keep hb
  have c1 := oC.keep hb
  have bel1 : Below w.heap.size w w1 := bel.trans (hb.mono bel.size)
  have hpC : w.heap.size + 1 + 1 < p := Nat.lt_of_lt_of_le oC.lt hp
  clear oA oB oC bel hb hp
  have c1a : w1.cell? ⟨w.heap.size + 1 + 1, 1, none⟩ = some (.slice none 0 0) := by rw [c1.cell]; rfl
  have c1f := c1.frozen 1
  have a12 : w1.cell? ⟨w.heap.size, 2, none⟩ = some (.slice J n.ids.length jc) := by rw [a1.cell]; rfl
  have hC1 := c1.lt
  go_wp2_with fail
  have c2 := c1.set_ 1 (.slice (some ⟨p, 0, none⟩) n.kids.length n.kids.length)
  have b2 := b1.far (p := ⟨w.heap.size + 1 + 1, 1, none⟩) (by simp) (.slice (some ⟨p, 0, none⟩) n.kids.length n.kids.length)
  have p2 := op.far (p := ⟨w.heap.size + 1 + 1, 1, none⟩) (by simp; omega) (.slice (some ⟨p, 0, none⟩) n.kids.length n.kids.length)
  have bel2 := bel1.setCell (p := ⟨w.heap.size + 1 + 1, 1, none⟩) (by simp; omega) (.slice (some ⟨p, 0, none⟩) n.kids.length n.kids.length)
  refine (toI_any J jc n.ids _ (HJ.out.keep bel2) h2).mono ?_
  rintro e w2 ⟨q, rfl, hq, oq, hb⟩
  have b3 := b2.keep hb
  have c3 := c2.keep hb
  have p3 := p2.keep hb
  have bel3 : Below w.heap.size w w2 := bel2.trans (hb.mono bel2.size)
  have hqC : w.heap.size + 1 + 1 < q := Nat.lt_of_lt_of_le c2.lt hq
  simp at c3
  clear a1 b1 c1 bel1 c1a c1f a12 hC1 c2 b2 p2 bel2 hb hq op
  have k0 : w2.cell? ⟨w.heap.size + 1 + 1, 0, none⟩ = some (.int .i64 n.byte) := by rw [c3.cell]; rfl
  have k1 : w2.cell? ⟨w.heap.size + 1 + 1, 1, none⟩ = some (.slice (some ⟨p, 0, none⟩) n.kids.length n.kids.length) := by rw [c3.cell]; rfl
  have k2 : w2.cell? ⟨w.heap.size + 1 + 1, 2, none⟩ = some (.slice none 0 0) := by rw [c3.cell]; rfl
  have kf := c3.frozen 2
  have r0 : w2.cell? ⟨w.heap.size + 1, 0, none⟩ = some (.int .i64 0) := by rw [b3.cell]; rfl
  have r1 : w2.cell? ⟨w.heap.size + 1, 1, none⟩ = some (.slice none 0 0) := by rw [b3.cell]; rfl
  have r2 : w2.cell? ⟨w.heap.size + 1, 2, none⟩ = some (.slice none 0 0) := by rw [b3.cell]; rfl
  have f0 := b3.frozen 0
  have f1 := b3.frozen 1
  have f2 := b3.frozen 2
  have hC3 := c3.lt
  have hB3 := b3.lt
  go_wp2
  have d0 := (b3.far (p := ⟨w.heap.size + 1 + 1, 2, none⟩) (by simp) (.slice (some ⟨q, 0, none⟩) n.ids.length n.ids.length)).set_ 0 (.int .i64 n.byte)
  have d1 := d0.set_ 1 (.slice (some ⟨p, 0, none⟩) n.kids.length n.kids.length)
  have d2 := d1.set_ 2 (.slice (some ⟨q, 0, none⟩) n.ids.length n.ids.length)
  have q0 := d0.cell 0
  have q1 := d1.cell 1
  have q2 := d2.cell 2
  simp at q0 q1 q2
  refine bodyPost_ret (v := .agg #[.int .i64 n.byte, .slice (some ⟨p, 0, none⟩) n.kids.length n.kids.length, .slice (some ⟨q, 0, none⟩) n.ids.length n.ids.length]) (by simp [results, Try.results76, go_sem, q0, q1, q2]) rfl ⟨p, q, rfl, by omega, by omega, ?_, ?_, ?_⟩
  · exact (((p3.far (by simp; omega) _).far (by simp; omega) _).far (by simp; omega) _).far (by simp; omega) _
  · exact (((oq.far (by simp; omega) _).far (by simp; omega) _).far (by simp; omega) _).far (by simp; omega) _
  · exact (((bel3.setCell (by simp; omega) _).setCell (by simp) _).setCell (by simp) _).setCell (by simp) _

theorem info46 : (Try.prog.info? 46).map (fun i => (i.zero, i.size, i.bytes)) = some (some (.agg #[.int .i64 0, .slice none 0 0, .slice none 0 0]), 3, 56) := by kernel_rfl

theorem own_of_row {w : World} {base : Nat} {e : TypeId} {g n size : Nat} {xs : List Value} (h : w.ownsRow base e size (.slice (some ⟨g, 0, none⟩) n n) n xs) : Own w g e xs := by
  rcases h.2 with ⟨h1, _⟩ | ⟨g', cap, cur, h1, _, h2, _, _, h3, h4⟩
  · cases h1
  · injection h1 with e1 e2 e3
    injection e1 with e1
    injection e1 with e4
    subst e3 e4
    rw [List.take_of_length_le (by simp [h3])] at h4
    unfold Own
    rw [h2, ← h4]

/-- While nodes are copied. -/
structure TS (w0 : World) (g : Nat) (ns : List Node) (k : Nat) (cur : List Value) (w : World) : Prop where
  o : Own w g 46 cur
  l : cur.length = ns.length * 3
  d : ∀ j (h : j < ns.length), j < k → ∃ p q, cur[j * 3]? = some (.int .i64 ns[j].byte) ∧ cur[j * 3 + 1]? = some (.slice (some ⟨p, 0, none⟩) ns[j].kids.length ns[j].kids.length) ∧ cur[j * 3 + 2]? = some (.slice (some ⟨q, 0, none⟩) ns[j].ids.length ns[j].ids.length) ∧ g < p ∧ g < q ∧ Own w p 3 (ints ns[j].kids) ∧ Own w q 3 (ints ns[j].ids)
  b : Below w0.heap.size w0 w
  g0 : w0.heap.size ≤ g

theorem TS.keep {w0 w w' : World} {g k : Nat} {ns : List Node} {cur : List Value} (h : TS w0 g ns k cur w) (hb : Below w.heap.size w w') : TS w0 g ns k cur w' :=
  ⟨h.o.keep hb, h.l, fun j hj hk => by
    obtain ⟨p, q, h1, h2, h3, h4, h5, h6, h7⟩ := h.d j hj hk
    exact ⟨p, q, h1, h2, h3, h4, h5, h6.keep hb, h7.keep hb⟩, h.b.trans (hb.mono h.b.size), h.g0⟩

theorem TS.put {w0 w : World} {g k p q : Nat} {ns : List Node} {cur : List Value} (h : TS w0 g ns k cur w) (hk : k < ns.length) (hp : g < p) (hq : g < q) (op : Own w p 3 (ints ns[k].kids)) (oq : Own w q 3 (ints ns[k].ids)) :
    TS w0 g ns (k + 1) (((cur.set (k * 3) (.int .i64 ns[k].byte)).set (k * 3 + 1) (.slice (some ⟨p, 0, none⟩) ns[k].kids.length ns[k].kids.length)).set (k * 3 + 2) (.slice (some ⟨q, 0, none⟩) ns[k].ids.length ns[k].ids.length))
      (((w.setCell ⟨g, k * 3, none⟩ (.int .i64 ns[k].byte)).setCell ⟨g, k * 3 + 1, none⟩ (.slice (some ⟨p, 0, none⟩) ns[k].kids.length ns[k].kids.length)).setCell ⟨g, k * 3 + 2, none⟩ (.slice (some ⟨q, 0, none⟩) ns[k].ids.length ns[k].ids.length)) := by
  have hl := h.l
  refine ⟨((h.o.set_ _ _).set_ _ _).set_ _ _, by simp [hl], fun j hj hjk => ?_, ((h.b.setCell h.g0 _).setCell h.g0 _).setCell h.g0 _, h.g0⟩
  rcases Nat.lt_succ_iff_lt_or_eq.1 hjk with h1 | h1
  · obtain ⟨p', q', e1, e2, e3, e4, e5, e6, e7⟩ := h.d j hj h1
    refine ⟨p', q', ?_, ?_, ?_, e4, e5, ?_, ?_⟩
    · rw [List.getElem?_set_ne (by omega), List.getElem?_set_ne (by omega), List.getElem?_set_ne (by omega)]; exact e1
    · rw [List.getElem?_set_ne (by omega), List.getElem?_set_ne (by omega), List.getElem?_set_ne (by omega)]; exact e2
    · rw [List.getElem?_set_ne (by omega), List.getElem?_set_ne (by omega), List.getElem?_set_ne (by omega)]; exact e3
    · exact ((e6.far (by simp; omega) _).far (by simp; omega) _).far (by simp; omega) _
    · exact ((e7.far (by simp; omega) _).far (by simp; omega) _).far (by simp; omega) _
  · subst h1
    refine ⟨p, q, ?_, ?_, ?_, hp, hq, ?_, ?_⟩
    · rw [List.getElem?_set_ne (by omega), List.getElem?_set_ne (by omega), List.getElem?_set_self (by omega)]
    · rw [List.getElem?_set_ne (by omega), List.getElem?_set_self (by simp; omega)]
    · rw [List.getElem?_set_self (by simp; omega)]
    · exact ((op.far (by simp; omega) _).far (by simp; omega) _).far (by simp; omega) _
    · exact ((oq.far (by simp; omega) _).far (by simp; omega) _).far (by simp; omega) _

/-- New nodes. -/
def NewNodes (ns : List Node) (w : World) (e : Ending) (w' : World) : Prop :=
  ∃ g, e = .returned (.slice (some ⟨g, 0, none⟩) ns.length ns.length) ∧ w.heap.size ≤ g ∧ Nodes w' (some ⟨g, 0, none⟩) ns ∧ Below w.heap.size w w'

theorem TS.done {w0 w : World} {g k : Nat} {ns : List Node} {cur : List Value} (h : TS w0 g ns k cur w) (hk : ns.length ≤ k) : Nodes w (some ⟨g, 0, none⟩) ns := by
  refine .inr ⟨g, 0, rfl, fun i hi => ?_⟩
  obtain ⟨p, q, e1, e2, e3, e4, e5, e6, e7⟩ := h.d i hi (by omega)
  refine ⟨some ⟨p, 0, none⟩, ns[i].kids.length, some ⟨q, 0, none⟩, ns[i].ids.length, ?_, ?_, ?_, e6.row, e7.row⟩
  · rw [h.o.cell]; simpa using e1
  · rw [h.o.cell]; simpa using e2
  · rw [h.o.cell]; simpa using e3

set_option maxRecDepth 100000 in
set_option maxHeartbeats 1000000 in
theorem toTS_any (a : Option Addr) (c : Nat) (ns : List Node) (w : World) (hr : Nodes w a ns) (hm : ns.length ≤ 1048576) (hs : Small ns) :
    Calls Try.prog 48 #[.slice a ns.length c] w (NewNodes ns w) := by
  obtain ⟨i0, hi0, hz0, hz1, hz2⟩ := info_parts info46
  have HI := Lib.hid (And.intro hi0 (And.intro hz0 (And.intro hz1 hz2)))
  clear hi0 hz0 hz1 hz2
  have HR := Lib.hid hr
  have HS := Lib.hid hs
  clear hr hs
  go_enter Try.func48, Try.ntmps48
  go_wp2_with (refine wpList_make_full _ rfl _ _ 41 rfl w.heap.size 46 i0 (.agg #[.int .i64 0, .slice none 0 0, .slice none 0 0]) 3 Try.underlying41 HI.out.1 HI.out.2.1 HI.out.2.2.1 .i64 .i64 ns.length ns.length ns.length rfl rfl rfl rfl (by rw [HI.out.2.2.2]; omega) (by unfold maxLen; omega) (by omega) ?_)
  intro w1 hown1 hgr1
  have HT : TS w w.heap.size ns 0 _ w1 := ⟨own_of_row hown1, by simp [size_madeCells], fun j _ hj => by omega, (Below.refl _ _).grown hgr1 (Nat.le_refl _) (fun k hk => by cases hk), Nat.le_refl _⟩
  clear hown1 hgr1
  go_wp2
  go_loopw [4] (fun i wr => ∃ k : Nat, k ≤ ns.length ∧ i = .int .i64 k ∧ ∃ cur, TS w w.heap.size ns k cur wr) (fun i _ => ns.length - (intOf i).toNat)
  case atStart => exact ⟨0, Nat.zero_le _, rfl, _, HT⟩
  case round =>
    clear HT
    obtain ⟨k, hk, rfl, cur, HT⟩ := hrel
    by_cases hlt : k < ns.length
    · obtain ⟨b, off, rfl, K, kc, J, jc, hn⟩ := (HR.out.keep HT.b).at_ hlt
      have hlt' : (k : Int) < (ns.length : Int) := by omega
      obtain ⟨hz1, hz2⟩ := HS.out _ (List.getElem_mem hlt)
      have c0 := hn.c0
      have c1 := hn.c1
      have c2 := hn.c2
      go_wp2_with fail
      refine (toT_any ns[k] K kc J jc _ hn.k hn.j hz1 hz2).mono ?_
      rintro e w2 ⟨p, q, rfl, hp, hq, op, oq, hb2⟩
      have hg2 : w.heap.size < wr.heap.size := HT.o.lt
      have HT2 := HT.keep hb2
      clear HT hn c0 c1 c2 hb2
      have hl := HT2.l
      have hs2 : w.heap.size < w2.heap.size := HT2.o.lt
      obtain ⟨v0, hv0⟩ : ∃ v, w2.cell? ⟨w.heap.size, k * 3, none⟩ = some v := ⟨_, HT2.o.cell_ (by omega)⟩
      obtain ⟨v1, hv1⟩ : ∃ v, w2.cell? ⟨w.heap.size, k * 3 + 1, none⟩ = some v := ⟨_, HT2.o.cell_ (by omega)⟩
      obtain ⟨v2, hv2⟩ : ∃ v, w2.cell? ⟨w.heap.size, k * 3 + 2, none⟩ = some v := ⟨_, HT2.o.cell_ (by omega)⟩
      have f0 := HT2.o.frozen (k * 3)
      have f1 := HT2.o.frozen (k * 3 + 1)
      have f2 := HT2.o.frozen (k * 3 + 2)
      have HT3 := HT2.put hlt (by omega) (by omega) op oq
      clear op oq
      go_wp2
      go_roundw
      case rel => exact ⟨k + 1, by omega, by go_num, _, HT3⟩
      case measure => simp [intOf]; omega
    · have hlt' : ¬ (k : Int) < (ns.length : Int) := by omega
      go_wp2
      go_ret
      exact ⟨_, rfl, Nat.le_refl _, HT.done (by omega), HT.b⟩

end Go.Proofs.Ytcanhkngikeeiaa
