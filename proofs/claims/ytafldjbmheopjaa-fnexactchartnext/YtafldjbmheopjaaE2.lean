/- Sets of items are copied: toItem, toItemS, toItemSS, toChart. -/
import Derived.Test.YtafldjbmheopjaaE1
namespace Go.Proofs.Ytafldjbmheopjaa
open Go.RowKit
set_option linter.unusedVariables false

set_option maxRecDepth 100000 in
set_option maxHeartbeats 1000000 in
theorem toIt_any (s : Sy) (w : World) :
    Calls Try.prog 60 #[.agg #[.int .i64 s.head, .int .i64 s.low, .int .i64 s.high]] w fun e w' => e = .returned (.agg #[.int .i64 s.head, .int .i64 s.low, .int .i64 s.high]) ∧ Below w.heap.size w w' := by
  go_enter Try.func60, Try.ntmps60
  go_wp2
  refine bodyPost_ret (v := .agg #[.int .i64 s.head, .int .i64 s.low, .int .i64 s.high]) (by simp [results, Try.results60, go_sem]) rfl ⟨rfl, ?_⟩
  exact ((below_box _).alloc (by simp) _).alloc (by simp; omega) _

theorem info58 : (Try.prog.info? 54).map (fun i => (i.zero, i.size, i.bytes)) = some (some (.agg #[.int .i64 0, .int .i64 0, .int .i64 0]), 3, 24) := by kernel_rfl
theorem info53 : (Try.prog.info? 52).map (fun i => (i.zero, i.size, i.bytes)) = some (some (.slice none 0 0), 1, 24) := by kernel_rfl

/-- While items are copied. -/
structure SI (w0 : World) (g : Nat) (ss : List Sy) (k : Nat) (cur : List Value) (w : World) : Prop where
  o : Own w g 54 cur
  l : cur.length = ss.length * 3
  d : ∀ i, i < k * 3 → cur[i]? = (symCells ss)[i]?
  b : Below w0.heap.size w0 w
  g0 : w0.heap.size ≤ g

theorem SI.keep {w0 w w' : World} {g k : Nat} {ss : List Sy} {cur : List Value} (h : SI w0 g ss k cur w) (hb : Below w.heap.size w w') : SI w0 g ss k cur w' :=
  ⟨h.o.keep hb, h.l, h.d, h.b.trans (hb.mono h.b.size), h.g0⟩

theorem SI.put {w0 w : World} {g k : Nat} {ss : List Sy} {cur : List Value} (h : SI w0 g ss k cur w) (hk : k < ss.length) :
    SI w0 g ss (k + 1) (((cur.set (k * 3) (.int .i64 ss[k].head)).set (k * 3 + 1) (.int .i64 ss[k].low)).set (k * 3 + 2) (.int .i64 ss[k].high))
      (((w.setCell ⟨g, k * 3, none⟩ (.int .i64 ss[k].head)).setCell ⟨g, k * 3 + 1, none⟩ (.int .i64 ss[k].low)).setCell ⟨g, k * 3 + 2, none⟩ (.int .i64 ss[k].high)) := by
  have hl := h.l
  obtain ⟨e0, e1, e2⟩ := symCells_get ss k hk
  refine ⟨((h.o.set_ _ _).set_ _ _).set_ _ _, by simp [hl], fun i hi => ?_, ((h.b.setCell h.g0 _).setCell h.g0 _).setCell h.g0 _, h.g0⟩
  by_cases i0 : i < k * 3
  · rw [List.getElem?_set_ne (by omega), List.getElem?_set_ne (by omega), List.getElem?_set_ne (by omega)]; exact h.d i i0
  · by_cases i1 : i = k * 3
    · subst i1
      rw [List.getElem?_set_ne (by omega), List.getElem?_set_ne (by omega), List.getElem?_set_self (by omega), e0]
    · by_cases i2 : i = k * 3 + 1
      · subst i2
        rw [List.getElem?_set_ne (by omega), List.getElem?_set_self (by simp; omega), e1]
      · have i3 : i = k * 3 + 2 := by omega
        subst i3
        rw [List.getElem?_set_self (by simp; omega), e2]

theorem SI.done {w0 w : World} {g k : Nat} {ss : List Sy} {cur : List Value} (h : SI w0 g ss k cur w) (hk : ss.length ≤ k) : Own w g 54 (symCells ss) := by
  have e : cur = symCells ss := by
    apply List.ext_getElem?
    intro i
    by_cases hi : i < k * 3
    · exact h.d i hi
    · have := h.l
      have h2 := symCells_length ss
      rw [List.getElem?_eq_none (by omega), List.getElem?_eq_none (by omega)]
  rw [← e]; exact h.o

/-- New items. -/
def NewIts (ss : List Sy) (w : World) (e : Ending) (w' : World) : Prop :=
  ∃ g, e = .returned (.slice (some ⟨g, 0, none⟩) ss.length ss.length) ∧ w.heap.size ≤ g ∧ Own w' g 54 (symCells ss) ∧ Below w.heap.size w w'

set_option maxRecDepth 100000 in
set_option maxHeartbeats 1000000 in
theorem toIts_any (a : Option Addr) (c : Nat) (ss : List Sy) (w : World) (hr : Syms w a ss) (hm : ss.length ≤ 1048576) :
    Calls Try.prog 43 #[.slice a ss.length c] w (NewIts ss w) := by
  obtain ⟨i0, hi0, hz0, hz1, hz2⟩ := info_parts info58
  have HI := Lib.hid (And.intro hi0 (And.intro hz0 (And.intro hz1 hz2)))
  clear hi0 hz0 hz1 hz2
  have HR := Lib.hid hr
  clear hr
  go_enter Try.func43, Try.ntmps43
  go_wp2_with (refine wpList_make_full _ rfl _ _ 52 rfl w.heap.size 54 i0 (.agg #[.int .i64 0, .int .i64 0, .int .i64 0]) 3 Try.underlying52 HI.out.1 HI.out.2.1 HI.out.2.2.1 .i64 .i64 ss.length ss.length ss.length rfl rfl rfl rfl (by rw [HI.out.2.2.2]; omega) (by unfold maxLen; omega) (by omega) ?_)
  intro w1 hown1 hgr1
  have HT : SI w w.heap.size ss 0 _ w1 := ⟨own_of_row hown1, by simp [size_madeCells], fun j hj => by omega, (Below.refl _ _).grown hgr1 (Nat.le_refl _) (fun k hk => by cases hk), Nat.le_refl _⟩
  clear hown1 hgr1
  go_wp2
  go_loopw [4] (fun i wr => ∃ k : Nat, k ≤ ss.length ∧ i = .int .i64 k ∧ ∃ cur, SI w w.heap.size ss k cur wr) (fun i _ => ss.length - (intOf i).toNat)
  case atStart => exact ⟨0, Nat.zero_le _, rfl, _, HT⟩
  case round =>
    clear HT
    obtain ⟨k, hk, rfl, cur, HT⟩ := hrel
    by_cases hlt : k < ss.length
    · obtain ⟨b, off, rfl, hn⟩ := (HR.out.keep HT.b).at_ hlt
      have hlt' : (k : Int) < (ss.length : Int) := by omega
      have c0 := hn.c0
      have c1 := hn.c1
      have c2 := hn.c2
      go_wp2_with fail
      refine (toIt_any ss[k] _).mono ?_
      rintro e w2 ⟨rfl, hb2⟩
      have HT2 := HT.keep hb2
      clear HT hn c0 c1 c2 hb2
      have hl := HT2.l
      have hs2 : w.heap.size < w2.heap.size := HT2.o.lt
      obtain ⟨v0, hv0⟩ : ∃ v, w2.cell? ⟨w.heap.size, k * 3, none⟩ = some v := ⟨_, HT2.o.cell_ (by omega)⟩
      obtain ⟨v1, hv1⟩ : ∃ v, w2.cell? ⟨w.heap.size, k * 3 + 1, none⟩ = some v := ⟨_, HT2.o.cell_ (by omega)⟩
      obtain ⟨v2, hv2⟩ : ∃ v, w2.cell? ⟨w.heap.size, k * 3 + 2, none⟩ = some v := ⟨_, HT2.o.cell_ (by omega)⟩
      have f0 := HT2.o.frozen (k * 3)
      have f1 := HT2.o.frozen (k * 3 + 1)
      have f2 := HT2.o.frozen (k * 3 + 2)
      have HT3 := HT2.put hlt
      go_wp2
      go_roundw
      case rel => exact ⟨k + 1, by omega, by go_num, _, HT3⟩
      case measure => simp [intOf]; omega
    · have hlt' : ¬ (k : Int) < (ss.length : Int) := by omega
      go_wp2
      go_ret
      exact ⟨_, rfl, Nat.le_refl _, HT.done (by omega), HT.b⟩

/-- The cells of sets that lie in blocks of their own. -/
def setCells : List Nat → List (List Sy) → List Value
  | b :: bs, t :: ts => .slice (some ⟨b, 0, none⟩) t.length t.length :: setCells bs ts
  | _, _ => []
theorem setCells_length : ∀ (bs : List Nat) (ts : List (List Sy)), bs.length = ts.length → (setCells bs ts).length = ts.length
  | [], [], _ => rfl
  | b :: bs, p :: ps, h => by
    have := setCells_length bs ps (by simpa using h)
    simp [setCells, this]
theorem setCells_get : ∀ (bs : List Nat) (ts : List (List Sy)) (i : Nat) (h : i < ts.length) (h' : i < bs.length), (setCells bs ts)[i]? = some (.slice (some ⟨bs[i], 0, none⟩) ts[i].length ts[i].length)
  | b :: bs, p :: ps, 0, _, _ => rfl
  | b :: bs, p :: ps, n + 1, h, h' => by
    have := setCells_get bs ps n (by simpa using h) (by simpa using h')
    simpa [setCells] using this

/-- Sets that are one's own: a block of sets, and one for the items of each. -/
structure OT (w : World) (g : Nat) (bs : List Nat) (ts : List (List Sy)) : Prop where
  o : Own w g 52 (setCells bs ts)
  l : bs.length = ts.length
  d : ∀ i (h : i < ts.length) (h' : i < bs.length), Own w bs[i] 54 (symCells ts[i])
  lt : ∀ b ∈ bs, g < b
  inc : bs.Pairwise (· < ·)

theorem OT.keep {w w' : World} {g : Nat} {bs : List Nat} {ts : List (List Sy)} (h : OT w g bs ts) (hb : Below w.heap.size w w') : OT w' g bs ts :=
  ⟨h.o.keep hb, h.l, fun i hi hi' => (h.d i hi hi').keep hb, h.lt, h.inc⟩
theorem OT.alloc {w : World} {g : Nat} {bs : List Nat} {ts : List (List Sy)} (h : OT w g bs ts) (o : Obj) : OT (w.alloc o) g bs ts := h.keep (below_box _)
theorem OT.drew {w : World} {g : Nat} {bs : List Nat} {ts : List (List Sy)} (h : OT w g bs ts) : OT w.drew g bs ts := h.keep (Below.refl _ _).drew
theorem OT.sts {w : World} {g : Nat} {bs : List Nat} {ts : List (List Sy)} (h : OT w g bs ts) : Sts w (some ⟨g, 0, none⟩) ts := by
  refine .inr ⟨g, 0, rfl, fun i hi => ?_⟩
  have hi' : i < bs.length := by rw [h.l]; exact hi
  have h0 := setCells_get bs ts i hi hi'
  exact ⟨_, _, by rw [h.o.cell]; simpa using h0, (h.d i hi hi').syms⟩
theorem OT.far {w : World} {g : Nat} {bs : List Nat} {ts : List (List Sy)} (h : OT w g bs ts) {p : Addr} (hp : p.block < g) (v : Value) : OT (w.setCell p v) g bs ts :=
  ⟨h.o.far (by omega) v, h.l, fun i hi hi' => (h.d i hi hi').far (by have := h.lt _ (List.getElem_mem hi'); omega) v, h.lt, h.inc⟩

/-- While sets are copied. -/
structure TI (w0 : World) (g : Nat) (ts : List (List Sy)) (k : Nat) (bs : List Nat) (cur : List Value) (w : World) : Prop where
  o : Own w g 52 cur
  l : cur.length = ts.length
  bl : bs.length = k
  d : ∀ j (h : j < ts.length) (h' : j < bs.length), cur[j]? = some (.slice (some ⟨bs[j], 0, none⟩) ts[j].length ts[j].length) ∧ Own w bs[j] 54 (symCells ts[j])
  lt : ∀ b ∈ bs, g < b
  up : ∀ b ∈ bs, b < w.heap.size
  inc : bs.Pairwise (· < ·)
  b : Below w0.heap.size w0 w
  g0 : w0.heap.size ≤ g

theorem TI.keep {w0 w w' : World} {g k : Nat} {ts : List (List Sy)} {bs : List Nat} {cur : List Value} (h : TI w0 g ts k bs cur w) (hb : Below w.heap.size w w') : TI w0 g ts k bs cur w' :=
  ⟨h.o.keep hb, h.l, h.bl, fun j hj hk => by
    obtain ⟨h1, h3⟩ := h.d j hj hk
    exact ⟨h1, h3.keep hb⟩, h.lt, fun b hb' => Nat.lt_of_lt_of_le (h.up b hb') hb.size, h.inc, h.b.trans (hb.mono h.b.size), h.g0⟩

theorem TI.put {w0 w : World} {g k q : Nat} {ts : List (List Sy)} {bs : List Nat} {cur : List Value} (h : TI w0 g ts k bs cur w) (hk : k < ts.length) (hq : g < q) (hnew : ∀ b ∈ bs, b < q) (oq : Own w q 54 (symCells ts[k])) :
    TI w0 g ts (k + 1) (bs ++ [q]) (cur.set k (.slice (some ⟨q, 0, none⟩) ts[k].length ts[k].length))
      (w.setCell ⟨g, k, none⟩ (.slice (some ⟨q, 0, none⟩) ts[k].length ts[k].length)) := by
  have hl := h.l
  have hbl := h.bl
  refine ⟨h.o.set_ _ _, by simp [hl], by simp [hbl], fun j hj hjk => ?_, ?_, ?_, ?_, h.b.setCell h.g0 _, h.g0⟩
  · by_cases h1 : j < k
    · have hj2 : j < bs.length := by omega
      obtain ⟨e1, e3⟩ := h.d j hj hj2
      rw [List.getElem_append_left hj2]
      refine ⟨?_, ?_⟩
      · rw [List.getElem?_set_ne (by omega)]; exact e1
      · have := h.lt _ (List.getElem_mem hj2)
        exact e3.far (by simp; omega) _
    · have hjk' : j = k := by simp at hjk; omega
      subst hjk'
      rw [List.getElem_append_right (by omega)]
      simp only [hbl, Nat.sub_self, List.getElem_cons_zero]
      refine ⟨?_, ?_⟩
      · rw [List.getElem?_set_self (by omega)]
      · exact oq.far (by simp; omega) _
  · intro b hb
    rcases List.mem_append.1 hb with h1 | h1
    · exact h.lt b h1
    · rw [List.mem_singleton.1 h1]; exact hq
  · intro b hb
    have e : (w.setCell ⟨g, k, none⟩ (.slice (some ⟨q, 0, none⟩) ts[k].length ts[k].length)).heap.size = w.heap.size := by simp
    rw [e]
    rcases List.mem_append.1 hb with h1 | h1
    · exact h.up b h1
    · rw [List.mem_singleton.1 h1]; exact oq.lt
  · rw [List.pairwise_append]
    refine ⟨h.inc, by simp, fun a ha b hb => ?_⟩
    rw [List.mem_singleton.1 hb]; exact hnew a ha

theorem TI.done {w0 w : World} {g k : Nat} {ts : List (List Sy)} {bs : List Nat} {cur : List Value} (h : TI w0 g ts k bs cur w) (hk : k = ts.length) : OT w g bs ts := by
  have hl : bs.length = ts.length := by rw [h.bl, hk]
  have e : cur = setCells bs ts := by
    apply List.ext_getElem?
    intro i
    have h1 := h.l
    have h2 := setCells_length bs ts hl
    by_cases hi : i < ts.length
    · obtain ⟨e1, _⟩ := h.d i hi (by omega)
      rw [e1, setCells_get bs ts i hi (by omega)]
    · rw [List.getElem?_eq_none (by omega), List.getElem?_eq_none (by omega)]
  exact ⟨by rw [← e]; exact h.o, hl, fun i hi hi' => (h.d i hi hi').2, h.lt, h.inc⟩

/-- New sets. -/
def NewSts (ts : List (List Sy)) (w : World) (e : Ending) (w' : World) : Prop :=
  ∃ g bs, e = .returned (.slice (some ⟨g, 0, none⟩) ts.length ts.length) ∧ w.heap.size ≤ g ∧ OT w' g bs ts ∧ Below w.heap.size w w'

set_option maxRecDepth 100000 in
set_option maxHeartbeats 1000000 in
theorem toSts_any (a : Option Addr) (c : Nat) (ts : List (List Sy)) (w : World) (hr : Sts w a ts) (hm : ts.length ≤ 1048576) (hs : SmallT ts) :
    Calls Try.prog 27 #[.slice a ts.length c] w (NewSts ts w) := by
  obtain ⟨i0, hi0, hz0, hz1, hz2⟩ := info_parts info53
  have HI := Lib.hid (And.intro hi0 (And.intro hz0 (And.intro hz1 hz2)))
  clear hi0 hz0 hz1 hz2
  have HR := Lib.hid hr
  have HS := Lib.hid hs
  clear hr hs
  have hmk := run_make_row' (P := Try.prog) 35 52 (.slice none 0 0) 24 Try.underlying35 info53 rfl .i64 .i64 ts.length (by omega) (by omega)
  have hmade := Own.made w 52 (.slice none 0 0) ts.length
  have HT : TI w w.heap.size ts 0 [] _ (w.alloc (.cells (madeCells #[.slice none 0 0] ts.length) 52)) := ⟨hmade, by simp, rfl, fun j _ hj => by simp at hj, by simp, by simp, by simp, below_box _, Nat.le_refl _⟩
  clear hmade
  go_enter Try.func27, Try.ntmps27
  go_wp2
  generalize w.alloc (.cells (madeCells #[.slice none 0 0] ts.length) 52) = w1 at *
  go_loopw [4] (fun i wr => ∃ k : Nat, k ≤ ts.length ∧ i = .int .i64 k ∧ ∃ bs cur, TI w w.heap.size ts k bs cur wr) (fun i _ => ts.length - (intOf i).toNat)
  case atStart => exact ⟨0, Nat.zero_le _, rfl, _, _, HT⟩
  case round =>
    clear HT
    obtain ⟨k, hk, rfl, bs, cur, HT⟩ := hrel
    by_cases hlt : k < ts.length
    · obtain ⟨b, off, rfl, K, kc, c0, hn⟩ := (HR.out.keep HT.b).at_ hlt
      have hlt' : (k : Int) < (ts.length : Int) := by omega
      have hz1 := HS.out _ (List.getElem_mem hlt)
      go_wp2_with fail
      refine (toIts_any K kc ts[k] _ hn hz1).mono ?_
      rintro e w2 ⟨q, rfl, hq, oq, hb2⟩
      have hg2 : w.heap.size < wr.heap.size := HT.o.lt
      have hup : Hid (∀ b ∈ bs, b < q) := fun b hb => Nat.lt_of_lt_of_le (HT.up b hb) hq
      have HT2 := HT.keep hb2
      clear HT hn c0 hb2
      have hl := HT2.l
      have hs2 : w.heap.size < w2.heap.size := HT2.o.lt
      obtain ⟨v0, hv0⟩ : ∃ v, w2.cell? ⟨w.heap.size, k, none⟩ = some v := ⟨_, HT2.o.cell_ (by omega)⟩
      have f0 := HT2.o.frozen k
      have HT3 := HT2.put hlt (by omega) hup.out oq
      clear oq
      go_wp2
      go_roundw
      case rel => exact ⟨k + 1, by omega, by go_num, _, _, HT3⟩
      case measure => simp [intOf]; omega
    · have hlt' : ¬ (k : Int) < (ts.length : Int) := by omega
      go_wp2
      go_ret
      exact ⟨_, _, rfl, Nat.le_refl _, HT.done (by omega), HT.b⟩

/-- A new chart. -/
def NewChart (ts : List (List Sy)) (w : World) (e : Ending) (w' : World) : Prop :=
  ∃ g bs, e = .returned (.agg #[.slice (some ⟨g, 0, none⟩) ts.length ts.length]) ∧ w.heap.size ≤ g ∧ OT w' g bs ts ∧ Below w.heap.size w w'

set_option maxRecDepth 100000 in
set_option maxHeartbeats 1000000 in
theorem toChart_any (a : Option Addr) (c : Nat) (ts : List (List Sy)) (w : World) (hr : Sts w a ts) (hm : ts.length ≤ 1048576) (hs : SmallT ts) :
    Calls Try.prog 9 #[.agg #[.slice a ts.length c]] w (NewChart ts w) := by
  have HR := Lib.hid hr
  have HS := Lib.hid hs
  clear hr hs
  go_enter Try.func9, Try.ntmps9
  go_wp2_with fail
  refine (toSts_any a c ts _ (HR.out.keep (((below_box _).alloc (by simp) _).alloc (by simp; omega) _)) hm HS.out).mono ?_
  rintro e w1 ⟨g, bs, rfl, hg, hown, hb⟩
  obtain ⟨hc1, hf1⟩ := bcell hb
  have hz : w.heap.size + 3 ≤ w1.heap.size := by have := hb.size; simpa using this
  simp at hg
  have hz0 : w.heap.size < w1.heap.size := by omega
  have hz1 : w.heap.size + 1 < w1.heap.size := by omega
  have hz2 : w.heap.size + 2 < w1.heap.size := by omega
  go_wp2
  refine bodyPost_ret (v := .agg #[.slice (some ⟨g, 0, none⟩) ts.length ts.length]) (by simp [results, Try.results9, go_sem, hc1]) rfl ⟨g, bs, rfl, by omega, ?_, ?_⟩
  · exact (hown.far (by simp; omega) _).far (by simp; omega) _
  · have hb0 : Below w.heap.size w w1 := ((((below_box _).alloc (by simp) _).alloc (by simp; omega) _).trans (hb.mono (by simp; omega)))
    exact (hb0.setCell (by simp; omega) _).setCell (by simp) _

end Go.Proofs.Ytafldjbmheopjaa
