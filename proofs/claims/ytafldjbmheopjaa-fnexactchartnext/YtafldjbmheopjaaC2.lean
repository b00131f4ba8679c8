/- Productions are copied: toSym, toSymS, toProd, toProdS, toCfg. -/
import Derived.Test.YtafldjbmheopjaaC1
namespace Go.Proofs.Ytafldjbmheopjaa
open Go.RowKit
set_option linter.unusedVariables false

theorem bcell {W w1 : World} (hb : Below W.heap.size W w1) : (∀ b o, b < W.heap.size → w1.cell? ⟨b, o, none⟩ = W.cell? ⟨b, o, none⟩) ∧ (∀ b o, b < W.heap.size → w1.frozen? ⟨b, o, none⟩ = W.frozen? ⟨b, o, none⟩) :=
  ⟨fun b o h => hb.cell (p := ⟨b, o, none⟩) h, fun b o h => hb.frozen (p := ⟨b, o, none⟩) h⟩

set_option maxRecDepth 100000 in
set_option maxHeartbeats 1000000 in
theorem toSy_any (s : Sy) (w : World) :
    Calls Try.prog 67 #[.agg #[.int .i64 s.head, .int .i64 s.low, .int .i64 s.high]] w fun e w' => e = .returned (.agg #[.int .i64 s.head, .int .i64 s.low, .int .i64 s.high]) ∧ Below w.heap.size w w' := by
  go_enter Try.func67, Try.ntmps67
  go_wp2
  refine bodyPost_ret (v := .agg #[.int .i64 s.head, .int .i64 s.low, .int .i64 s.high]) (by simp [results, Try.results67, go_sem]) rfl ⟨rfl, ?_⟩
  exact ((below_box _).alloc (by simp) _).alloc (by simp; omega) _

theorem info46 : (Try.prog.info? 68).map (fun i => (i.zero, i.size, i.bytes)) = some (some (.agg #[.int .i64 0, .int .i64 0, .int .i64 0]), 3, 24) := by kernel_rfl
theorem info43 : (Try.prog.info? 57).map (fun i => (i.zero, i.size, i.bytes)) = some (some (.agg #[.int .i64 0, .slice none 0 0]), 2, 32) := by kernel_rfl

theorem own_of_row {w : World} {base : Nat} {e : TypeId} {g n size : Nat} {xs : List Value} (h : w.ownsRow base e size (.slice (some ⟨g, 0, none⟩) n n) n xs) : Own w g e xs := by
  rcases h.2 with ⟨h1, _⟩ | ⟨g', cap, cur, h1, _, h2, _, _, h3, h4⟩
  · cases h1
  · injection h1 with e1 e2 e3
    injection e1 with e1
    injection e1 with e4
    subst e3 e4
    rw [List.take_of_length_le (by simp [h3])] at h4
    unfold Own
    rw [h2, ← h4]

/-- While symbols are copied. -/
structure SS (w0 : World) (g : Nat) (ss : List Sy) (k : Nat) (cur : List Value) (w : World) : Prop where
  o : Own w g 68 cur
  l : cur.length = ss.length * 3
  d : ∀ i, i < k * 3 → cur[i]? = (symCells ss)[i]?
  b : Below w0.heap.size w0 w
  g0 : w0.heap.size ≤ g

theorem SS.keep {w0 w w' : World} {g k : Nat} {ss : List Sy} {cur : List Value} (h : SS w0 g ss k cur w) (hb : Below w.heap.size w w') : SS w0 g ss k cur w' :=
  ⟨h.o.keep hb, h.l, h.d, h.b.trans (hb.mono h.b.size), h.g0⟩

theorem SS.put {w0 w : World} {g k : Nat} {ss : List Sy} {cur : List Value} (h : SS w0 g ss k cur w) (hk : k < ss.length) :
    SS w0 g ss (k + 1) (((cur.set (k * 3) (.int .i64 ss[k].head)).set (k * 3 + 1) (.int .i64 ss[k].low)).set (k * 3 + 2) (.int .i64 ss[k].high))
      (((w.setCell ⟨g, k * 3, none⟩ (.int .i64 ss[k].head)).setCell ⟨g, k * 3 + 1, none⟩ (.int .i64 ss[k].low)).setCell ⟨g, k * 3 + 2, none⟩ (.int .i64 ss[k].high)) := by
  have hl := h.l
  obtain ⟨e0, e1, e2⟩ := symCells_get ss k hk
  refine ⟨((h.o.set_ _ _).set_ _ _).set_ _ _, by simp [hl], fun i hi => ?_, ((h.b.setCell h.g0 _).setCell h.g0 _).setCell h.g0 _, h.g0⟩
  by_cases i0 : i < k * 3
  · rw [List.getElem?_set_ne (by omega), List.getElem?_set_ne (by omega), List.getElem?_set_ne (by omega)]; exact h.d i i0
  · by_cases i1 : i = k * 3
    · subst i1
      rw [List.getElem?_set_ne (by omega), List.getElem?_set_ne (by omega), List.getElem?_set_self (by omega), e0]
    · by_cases i2 : i = k * 3 + 1
      · subst i2
        rw [List.getElem?_set_ne (by omega), List.getElem?_set_self (by simp; omega), e1]
      · have i3 : i = k * 3 + 2 := by omega
        subst i3
        rw [List.getElem?_set_self (by simp; omega), e2]

theorem SS.done {w0 w : World} {g k : Nat} {ss : List Sy} {cur : List Value} (h : SS w0 g ss k cur w) (hk : ss.length ≤ k) : Own w g 68 (symCells ss) := by
  have e : cur = symCells ss := by
    apply List.ext_getElem?
    intro i
    by_cases hi : i < k * 3
    · exact h.d i hi
    · have := h.l
      have h2 := symCells_length ss
      rw [List.getElem?_eq_none (by omega), List.getElem?_eq_none (by omega)]
  rw [← e]; exact h.o

/-- New symbols. -/
def NewSyms (ss : List Sy) (w : World) (e : Ending) (w' : World) : Prop :=
  ∃ g, e = .returned (.slice (some ⟨g, 0, none⟩) ss.length ss.length) ∧ w.heap.size ≤ g ∧ Own w' g 68 (symCells ss) ∧ Below w.heap.size w w'

set_option maxRecDepth 100000 in
set_option maxHeartbeats 1000000 in
theorem toSyms_any (a : Option Addr) (c : Nat) (ss : List Sy) (w : World) (hr : Syms w a ss) (hm : ss.length ≤ 1048576) :
    Calls Try.prog 59 #[.slice a ss.length c] w (NewSyms ss w) := by
  obtain ⟨i0, hi0, hz0, hz1, hz2⟩ := info_parts info46
  have HI := Lib.hid (And.intro hi0 (And.intro hz0 (And.intro hz1 hz2)))
  clear hi0 hz0 hz1 hz2
  have HR := Lib.hid hr
  clear hr
  go_enter Try.func59, Try.ntmps59
  go_wp2_with (refine wpList_make_full _ rfl _ _ 55 rfl w.heap.size 68 i0 (.agg #[.int .i64 0, .int .i64 0, .int .i64 0]) 3 Try.underlying55 HI.out.1 HI.out.2.1 HI.out.2.2.1 .i64 .i64 ss.length ss.length ss.length rfl rfl rfl rfl (by rw [HI.out.2.2.2]; omega) (by unfold maxLen; omega) (by omega) ?_)
  intro w1 hown1 hgr1
  have HT : SS w w.heap.size ss 0 _ w1 := ⟨own_of_row hown1, by simp [size_madeCells], fun j hj => by omega, (Below.refl _ _).grown hgr1 (Nat.le_refl _) (fun k hk => by cases hk), Nat.le_refl _⟩
  clear hown1 hgr1
  go_wp2
  go_loopw [4] (fun i wr => ∃ k : Nat, k ≤ ss.length ∧ i = .int .i64 k ∧ ∃ cur, SS w w.heap.size ss k cur wr) (fun i _ => ss.length - (intOf i).toNat)
  case atStart => exact ⟨0, Nat.zero_le _, rfl, _, HT⟩
  case round =>
    clear HT
    obtain ⟨k, hk, rfl, cur, HT⟩ := hrel
    by_cases hlt : k < ss.length
    · obtain ⟨b, off, rfl, hn⟩ := (HR.out.keep HT.b).at_ hlt
      have hlt' : (k : Int) < (ss.length : Int) := by omega
      have c0 := hn.c0
      have c1 := hn.c1
      have c2 := hn.c2
      go_wp2_with fail
      refine (toSy_any ss[k] _).mono ?_
      rintro e w2 ⟨rfl, hb2⟩
      have HT2 := HT.keep hb2
      clear HT hn c0 c1 c2 hb2
      have hl := HT2.l
      have hs2 : w.heap.size < w2.heap.size := HT2.o.lt
      obtain ⟨v0, hv0⟩ : ∃ v, w2.cell? ⟨w.heap.size, k * 3, none⟩ = some v := ⟨_, HT2.o.cell_ (by omega)⟩
      obtain ⟨v1, hv1⟩ : ∃ v, w2.cell? ⟨w.heap.size, k * 3 + 1, none⟩ = some v := ⟨_, HT2.o.cell_ (by omega)⟩
      obtain ⟨v2, hv2⟩ : ∃ v, w2.cell? ⟨w.heap.size, k * 3 + 2, none⟩ = some v := ⟨_, HT2.o.cell_ (by omega)⟩
      have f0 := HT2.o.frozen (k * 3)
      have f1 := HT2.o.frozen (k * 3 + 1)
      have f2 := HT2.o.frozen (k * 3 + 2)
      have HT3 := HT2.put hlt
      go_wp2
      go_roundw
      case rel => exact ⟨k + 1, by omega, by go_num, _, HT3⟩
      case measure => simp [intOf]; omega
    · have hlt' : ¬ (k : Int) < (ss.length : Int) := by omega
      go_wp2
      go_ret
      exact ⟨_, rfl, Nat.le_refl _, HT.done (by omega), HT.b⟩

/-- A copy of a production: its symbols lie in a block of their own. -/
def NewPd (p : Pd) (w : World) (e : Ending) (w' : World) : Prop :=
  ∃ q, e = .returned (.agg #[.int .i64 p.head, .slice (some ⟨q, 0, none⟩) p.body.length p.body.length]) ∧ w.heap.size ≤ q ∧ Own w' q 68 (symCells p.body) ∧ Below w.heap.size w w'

set_option maxRecDepth 100000 in
set_option maxHeartbeats 1000000 in
theorem toPd_any (p : Pd) (K : Option Addr) (kc : Nat) (w : World) (hk : Syms w K p.body) (h1 : p.body.length ≤ 1048576) :
    Calls Try.prog 42 #[.agg #[.int .i64 p.head, .slice K p.body.length kc]] w (NewPd p w) := by
  have HK := Lib.hid hk
  clear hk
  go_enter Try.func42, Try.ntmps42
  go_wp2_with fail
  refine (toSyms_any K kc p.body _ (HK.out.keep (((below_box _).alloc (by simp) _).alloc (by simp; omega) _)) h1).mono ?_
  rintro e w1 ⟨g, rfl, hg, hown, hb⟩
  obtain ⟨hc1, hf1⟩ := bcell hb
  have hz : w.heap.size + 3 ≤ w1.heap.size := by have := hb.size; simpa using this
  simp at hg
  have hz0 : w.heap.size < w1.heap.size := by omega
  have hz1 : w.heap.size + 1 < w1.heap.size := by omega
  have hz2 : w.heap.size + 2 < w1.heap.size := by omega
  go_wp2
  refine bodyPost_ret (v := .agg #[.int .i64 p.head, .slice (some ⟨g, 0, none⟩) p.body.length p.body.length]) (by simp [results, Try.results42, go_sem, hc1]) rfl ⟨g, rfl, by omega, ?_, ?_⟩
  · exact ((hown.far (by simp; omega) _).far (by simp; omega) _).far (by simp; omega) _
  · have hb0 : Below w.heap.size w w1 := ((((below_box _).alloc (by simp) _).alloc (by simp; omega) _).trans (hb.mono (by simp; omega)))
    exact ((hb0.setCell (by simp; omega) _).setCell (by simp) _).setCell (by simp) _

/-- The cells of productions whose symbols lie in blocks of their own. -/
def pdCells : List Nat → List Pd → List Value
  | b :: bs, p :: ps => .int .i64 p.head :: .slice (some ⟨b, 0, none⟩) p.body.length p.body.length :: pdCells bs ps
  | _, _ => []
theorem pdCells_length : ∀ (bs : List Nat) (ps : List Pd), bs.length = ps.length → (pdCells bs ps).length = ps.length * 2
  | [], [], _ => rfl
  | b :: bs, p :: ps, h => by
    have := pdCells_length bs ps (by simpa using h)
    simp [pdCells, this]; omega
theorem pdCells_get : ∀ (bs : List Nat) (ps : List Pd) (i : Nat) (h : i < ps.length) (h' : i < bs.length), (pdCells bs ps)[i * 2]? = some (.int .i64 ps[i].head) ∧ (pdCells bs ps)[i * 2 + 1]? = some (.slice (some ⟨bs[i], 0, none⟩) ps[i].body.length ps[i].body.length)
  | b :: bs, p :: ps, 0, _, _ => ⟨rfl, rfl⟩
  | b :: bs, p :: ps, n + 1, h, h' => by
    have := pdCells_get bs ps n (by simpa using h) (by simpa using h')
    have e : (n + 1) * 2 = n * 2 + 2 := by omega
    rw [e]
    simpa [pdCells] using this

/-- Productions that are one's own: a block of productions, and one for the symbols of each. -/
structure OP (w : World) (g : Nat) (bs : List Nat) (ps : List Pd) : Prop where
  o : Own w g 57 (pdCells bs ps)
  l : bs.length = ps.length
  d : ∀ i (h : i < ps.length) (h' : i < bs.length), Own w bs[i] 68 (symCells ps[i].body)
  lt : ∀ b ∈ bs, g < b
  inc : bs.Pairwise (· < ·)

theorem OP.keep {w w' : World} {g : Nat} {bs : List Nat} {ps : List Pd} (h : OP w g bs ps) (hb : Below w.heap.size w w') : OP w' g bs ps :=
  ⟨h.o.keep hb, h.l, fun i hi hi' => (h.d i hi hi').keep hb, h.lt, h.inc⟩
theorem OP.alloc {w : World} {g : Nat} {bs : List Nat} {ps : List Pd} (h : OP w g bs ps) (o : Obj) : OP (w.alloc o) g bs ps := h.keep (below_box _)
theorem OP.drew {w : World} {g : Nat} {bs : List Nat} {ps : List Pd} (h : OP w g bs ps) : OP w.drew g bs ps := h.keep (Below.refl _ _).drew
theorem OP.pds {w : World} {g : Nat} {bs : List Nat} {ps : List Pd} (h : OP w g bs ps) : Pds w (some ⟨g, 0, none⟩) ps := by
  refine .inr ⟨g, 0, rfl, fun i hi => ?_⟩
  have hi' : i < bs.length := by rw [h.l]; exact hi
  obtain ⟨h0, h1⟩ := pdCells_get bs ps i hi hi'
  exact ⟨_, _, by rw [h.o.cell]; simpa using h0, by rw [h.o.cell]; simpa using h1, (h.d i hi hi').syms⟩

/-- While productions are copied. -/
structure TS (w0 : World) (g : Nat) (ps : List Pd) (k : Nat) (bs : List Nat) (cur : List Value) (w : World) : Prop where
  o : Own w g 57 cur
  l : cur.length = ps.length * 2
  bl : bs.length = k
  d : ∀ j (h : j < ps.length) (h' : j < bs.length), cur[j * 2]? = some (.int .i64 ps[j].head) ∧ cur[j * 2 + 1]? = some (.slice (some ⟨bs[j], 0, none⟩) ps[j].body.length ps[j].body.length) ∧ Own w bs[j] 68 (symCells ps[j].body)
  lt : ∀ b ∈ bs, g < b
  up : ∀ b ∈ bs, b < w.heap.size
  inc : bs.Pairwise (· < ·)
  b : Below w0.heap.size w0 w
  g0 : w0.heap.size ≤ g

theorem TS.keep {w0 w w' : World} {g k : Nat} {ps : List Pd} {bs : List Nat} {cur : List Value} (h : TS w0 g ps k bs cur w) (hb : Below w.heap.size w w') : TS w0 g ps k bs cur w' :=
  ⟨h.o.keep hb, h.l, h.bl, fun j hj hk => by
    obtain ⟨h1, h2, h3⟩ := h.d j hj hk
    exact ⟨h1, h2, h3.keep hb⟩, h.lt, fun b hb' => Nat.lt_of_lt_of_le (h.up b hb') hb.size, h.inc, h.b.trans (hb.mono h.b.size), h.g0⟩

theorem TS.put {w0 w : World} {g k q : Nat} {ps : List Pd} {bs : List Nat} {cur : List Value} (h : TS w0 g ps k bs cur w) (hk : k < ps.length) (hq : g < q) (hnew : ∀ b ∈ bs, b < q) (oq : Own w q 68 (symCells ps[k].body)) :
    TS w0 g ps (k + 1) (bs ++ [q]) ((cur.set (k * 2) (.int .i64 ps[k].head)).set (k * 2 + 1) (.slice (some ⟨q, 0, none⟩) ps[k].body.length ps[k].body.length))
      ((w.setCell ⟨g, k * 2, none⟩ (.int .i64 ps[k].head)).setCell ⟨g, k * 2 + 1, none⟩ (.slice (some ⟨q, 0, none⟩) ps[k].body.length ps[k].body.length)) := by
  have hl := h.l
  have hbl := h.bl
  refine ⟨(h.o.set_ _ _).set_ _ _, by simp [hl], by simp [hbl], fun j hj hjk => ?_, ?_, ?_, ?_, (h.b.setCell h.g0 _).setCell h.g0 _, h.g0⟩
  · by_cases h1 : j < k
    · have hj2 : j < bs.length := by omega
      obtain ⟨e1, e2, e3⟩ := h.d j hj hj2
      rw [List.getElem_append_left hj2]
      refine ⟨?_, ?_, ?_⟩
      · rw [List.getElem?_set_ne (by omega), List.getElem?_set_ne (by omega)]; exact e1
      · rw [List.getElem?_set_ne (by omega), List.getElem?_set_ne (by omega)]; exact e2
      · have := h.lt _ (List.getElem_mem hj2)
        exact (e3.far (by simp; omega) _).far (by simp; omega) _
    · have hjk' : j = k := by simp at hjk; omega
      subst hjk'
      rw [List.getElem_append_right (by omega)]
      simp only [hbl, Nat.sub_self, List.getElem_cons_zero]
      refine ⟨?_, ?_, ?_⟩
      · rw [List.getElem?_set_ne (by omega), List.getElem?_set_self (by omega)]
      · rw [List.getElem?_set_self (by simp; omega)]
      · exact (oq.far (by simp; omega) _).far (by simp; omega) _
  · intro b hb
    rcases List.mem_append.1 hb with h1 | h1
    · exact h.lt b h1
    · rw [List.mem_singleton.1 h1]; exact hq
  · intro b hb
    have e : ((w.setCell ⟨g, k * 2, none⟩ (.int .i64 ps[k].head)).setCell ⟨g, k * 2 + 1, none⟩ (.slice (some ⟨q, 0, none⟩) ps[k].body.length ps[k].body.length)).heap.size = w.heap.size := by simp
    rw [e]
    rcases List.mem_append.1 hb with h1 | h1
    · exact h.up b h1
    · rw [List.mem_singleton.1 h1]; exact oq.lt
  · rw [List.pairwise_append]
    refine ⟨h.inc, by simp, fun a ha b hb => ?_⟩
    rw [List.mem_singleton.1 hb]; exact hnew a ha

theorem TS.done {w0 w : World} {g k : Nat} {ps : List Pd} {bs : List Nat} {cur : List Value} (h : TS w0 g ps k bs cur w) (hk : k = ps.length) : OP w g bs ps := by
  have hl : bs.length = ps.length := by rw [h.bl, hk]
  have e : cur = pdCells bs ps := by
    apply List.ext_getElem?
    intro i
    have h1 := h.l
    have h2 := pdCells_length bs ps hl
    by_cases hi : i < ps.length * 2
    · have hj : i / 2 < ps.length := by omega
      obtain ⟨e1, e2, _⟩ := h.d (i / 2) hj (by omega)
      obtain ⟨f1, f2⟩ := pdCells_get bs ps (i / 2) hj (by omega)
      rcases Nat.mod_two_eq_zero_or_one i with hm | hm
      · have : i = i / 2 * 2 := by omega
        rw [this, e1, f1]
      · have : i = i / 2 * 2 + 1 := by omega
        rw [this, e2, f2]
    · rw [List.getElem?_eq_none (by omega), List.getElem?_eq_none (by omega)]
  exact ⟨by rw [← e]; exact h.o, hl, fun i hi hi' => (h.d i hi hi').2.2, h.lt, h.inc⟩

/-- New productions. -/
def NewPds (ps : List Pd) (w : World) (e : Ending) (w' : World) : Prop :=
  ∃ g bs, e = .returned (.slice (some ⟨g, 0, none⟩) ps.length ps.length) ∧ w.heap.size ≤ g ∧ OP w' g bs ps ∧ Below w.heap.size w w'

set_option maxRecDepth 100000 in
set_option maxHeartbeats 1000000 in
theorem toPds_any (a : Option Addr) (c : Nat) (ps : List Pd) (w : World) (hr : Pds w a ps) (hm : ps.length ≤ 1048576) (hs : Small ps) :
    Calls Try.prog 26 #[.slice a ps.length c] w (NewPds ps w) := by
  obtain ⟨i0, hi0, hz0, hz1, hz2⟩ := info_parts info43
  have HI := Lib.hid (And.intro hi0 (And.intro hz0 (And.intro hz1 hz2)))
  clear hi0 hz0 hz1 hz2
  have HR := Lib.hid hr
  have HS := Lib.hid hs
  clear hr hs
  go_enter Try.func26, Try.ntmps26
  go_wp2_with (refine wpList_make_full _ rfl _ _ 31 rfl w.heap.size 57 i0 (.agg #[.int .i64 0, .slice none 0 0]) 2 Try.underlying31 HI.out.1 HI.out.2.1 HI.out.2.2.1 .i64 .i64 ps.length ps.length ps.length rfl rfl rfl rfl (by rw [HI.out.2.2.2]; omega) (by unfold maxLen; omega) (by omega) ?_)
  intro w1 hown1 hgr1
  have HT : TS w w.heap.size ps 0 [] _ w1 := ⟨own_of_row hown1, by simp [size_madeCells], rfl, fun j _ hj => by simp at hj, by simp, by simp, by simp, (Below.refl _ _).grown hgr1 (Nat.le_refl _) (fun k hk => by cases hk), Nat.le_refl _⟩
  clear hown1 hgr1
  go_wp2
  go_loopw [4] (fun i wr => ∃ k : Nat, k ≤ ps.length ∧ i = .int .i64 k ∧ ∃ bs cur, TS w w.heap.size ps k bs cur wr) (fun i _ => ps.length - (intOf i).toNat)
  case atStart => exact ⟨0, Nat.zero_le _, rfl, _, _, HT⟩
  case round =>
    clear HT
    obtain ⟨k, hk, rfl, bs, cur, HT⟩ := hrel
    by_cases hlt : k < ps.length
    · obtain ⟨b, off, rfl, K, kc, hn⟩ := (HR.out.keep HT.b).at_ hlt
      have hlt' : (k : Int) < (ps.length : Int) := by omega
      have hz1 := HS.out _ (List.getElem_mem hlt)
      have c0 := hn.c0
      have c1 := hn.c1
      go_wp2_with fail
      refine (toPd_any ps[k] K kc _ hn.k hz1).mono ?_
      rintro e w2 ⟨q, rfl, hq, oq, hb2⟩
      have hg2 : w.heap.size < wr.heap.size := HT.o.lt
      have hup : Hid (∀ b ∈ bs, b < q) := fun b hb => Nat.lt_of_lt_of_le (HT.up b hb) hq
      have HT2 := HT.keep hb2
      clear HT hn c0 c1 hb2
      have hl := HT2.l
      have hs2 : w.heap.size < w2.heap.size := HT2.o.lt
      obtain ⟨v0, hv0⟩ : ∃ v, w2.cell? ⟨w.heap.size, k * 2, none⟩ = some v := ⟨_, HT2.o.cell_ (by omega)⟩
      obtain ⟨v1, hv1⟩ : ∃ v, w2.cell? ⟨w.heap.size, k * 2 + 1, none⟩ = some v := ⟨_, HT2.o.cell_ (by omega)⟩
      have f0 := HT2.o.frozen (k * 2)
      have f1 := HT2.o.frozen (k * 2 + 1)
      have HT3 := HT2.put hlt (by omega) hup.out oq
      clear oq
      go_wp2
      go_roundw
      case rel => exact ⟨k + 1, by omega, by go_num, _, _, HT3⟩
      case measure => simp [intOf]; omega
    · have hlt' : ¬ (k : Int) < (ps.length : Int) := by omega
      go_wp2
      go_ret
      exact ⟨_, _, rfl, Nat.le_refl _, HT.done (by omega), HT.b⟩

/-- New productions of so many heads. -/
def NewCfg (hd : Int) (ps : List Pd) (w : World) (e : Ending) (w' : World) : Prop :=
  ∃ g bs, e = .returned (.agg #[.int .i64 hd, .slice (some ⟨g, 0, none⟩) ps.length ps.length]) ∧ w.heap.size ≤ g ∧ OP w' g bs ps ∧ Below w.heap.size w w'

theorem OP.far {w : World} {g : Nat} {bs : List Nat} {ps : List Pd} (h : OP w g bs ps) {p : Addr} (hp : p.block < g) (v : Value) : OP (w.setCell p v) g bs ps :=
  ⟨h.o.far (by omega) v, h.l, fun i hi hi' => (h.d i hi hi').far (by have := h.lt _ (List.getElem_mem hi'); omega) v, h.lt, h.inc⟩

set_option maxRecDepth 100000 in
set_option maxHeartbeats 1000000 in
theorem toCfg_any (a : Option Addr) (c : Nat) (hd : Int) (ps : List Pd) (w : World) (hr : Pds w a ps) (hm : ps.length ≤ 1048576) (hs : Small ps) :
    Calls Try.prog 8 #[.agg #[.int .i64 hd, .slice a ps.length c]] w (NewCfg hd ps w) := by
  have HR := Lib.hid hr
  have HS := Lib.hid hs
  clear hr hs
  go_enter Try.func8, Try.ntmps8
  go_wp2_with fail
  refine (toPds_any a c ps _ (HR.out.keep (((below_box _).alloc (by simp) _).alloc (by simp; omega) _)) hm HS.out).mono ?_
  rintro e w1 ⟨g, bs, rfl, hg, hown, hb⟩
  obtain ⟨hc1, hf1⟩ := bcell hb
  have hz : w.heap.size + 3 ≤ w1.heap.size := by have := hb.size; simpa using this
  simp at hg
  have hz0 : w.heap.size < w1.heap.size := by omega
  have hz1 : w.heap.size + 1 < w1.heap.size := by omega
  have hz2 : w.heap.size + 2 < w1.heap.size := by omega
  go_wp2
  refine bodyPost_ret (v := .agg #[.int .i64 hd, .slice (some ⟨g, 0, none⟩) ps.length ps.length]) (by simp [results, Try.results8, go_sem, hc1]) rfl ⟨g, bs, rfl, by omega, ?_, ?_⟩
  · exact ((hown.far (by simp; omega) _).far (by simp; omega) _).far (by simp; omega) _
  · have hb0 : Below w.heap.size w w1 := ((((below_box _).alloc (by simp) _).alloc (by simp; omega) _).trans (hb.mono (by simp; omega)))
    exact ((hb0.setCell (by simp; omega) _).setCell (by simp) _).setCell (by simp) _

end Go.Proofs.Ytafldjbmheopjaa
