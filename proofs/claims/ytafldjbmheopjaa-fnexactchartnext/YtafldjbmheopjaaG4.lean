/- A builder of charts that goes on from a chart: what it has in memory. -/
import Derived.Test.YtafldjbmheopjaaG2
import Derived.Test.YtafldjbmheopjaaG3
import Derived.Test.YtafldjbmheopjaaF3
namespace Go.Proofs.Ytafldjbmheopjaa
open Go.RowKit
set_option linter.unusedVariables false

set_option maxRecDepth 100000 in
set_option maxHeartbeats 1000000 in
theorem cloneIts_any (a : Option Addr) (c : Nat) (ss : List Sy) (w : World) (hr : Row w a (symCells ss)) (hm : ss.length ≤ 1048576) :
    Calls Try.prog 46 #[.slice a ss.length c] w (CloneTo 54 3 ss.length (symCells ss) w) := by
  obtain ⟨i0, hi0, hz0, hz1, hz2⟩ := info_parts info58
  have HI := Lib.hid (And.intro hi0 (And.intro hz0 (And.intro hz1 hz2)))
  clear hi0 hz0 hz1 hz2
  cases a with
  | none =>
    have hx := hr.none_nil
    have : ss = [] := by
      cases ss with
      | nil => rfl
      | cons x r => cases hx
    subst this
    clear hr hx
    have q : ∀ (w : World) (a : Option Addr) (n c n' c' : Nat), (binOp .eql 52 (.slice a n c) (.slice none n' c')).run Try.prog w = .ok (.bool a.isNone) w := fun w a n c n' c' => Lib.run_eql_slice_nil w _ _ a n c n' c' Try.underlying52
    go_enter Try.func46, Try.ntmps46
    go_wp2
    go_ret
    exact ⟨none, 0, rfl, World.ownsRow_nil _ _ _ _, Below.refl _ _⟩
  | some ad =>
    have HR := Lib.hid hr
    clear hr
    have q : ∀ (w : World) (a : Option Addr) (n c n' c' : Nat), (binOp .eql 52 (.slice a n c) (.slice none n' c')).run Try.prog w = .ok (.bool a.isNone) w := fun w a n c n' c' => Lib.run_eql_slice_nil w _ _ a n c n' c' Try.underlying52
    go_enter Try.func46, Try.ntmps46
    go_wp2_with (at_builtin; refine wpList_append_own_at _ rfl _ _ 52 rfl w.heap.size 54 i0 (.agg #[.int .i64 0, .int .i64 0, .int .i64 0]) 3 24 Try.underlying52 HI.out.1 HI.out.2.1 HI.out.2.2.1 HI.out.2.2.2 rfl (by decide) _ _ _ rfl (own_empty w 54 3 _ (Nat.le_refl _)) ad ss.length c (symCells ss) rfl (symCells_length ss) ?c1 ?c2 ?c3 ?c4 ?c5 ?_)
    case c1 => exact (HR.out.alloc _).news
    case c2 => exact symCells_one ss
    case c3 => unfold maxLen; omega
    case c4 => omega
    case c5 => simp
    intro v' w4 hown' hgrow _ hblk
    obtain ⟨A', cap', rfl⟩ := own_form hown'
    have hb' : Below w.heap.size w w4 := (below_box _).grown hgrow (by simp) (fun k hk => by simp [Value.ownBlock] at hk; omega)
    go_wp2
    go_ret
    exact ⟨A', cap', rfl, hown', hb'⟩

theorem row_of {w w' : World} {base : Nat} {e : TypeId} {size : Nat} {v : Value} {n : Nat} {xs : List Value} (h : w.ownsRow base e size v n xs) (hb : ∀ b cur, v.ownBlock = some b → w.heap[b]? = some (.cells cur e (0, 0)) → base ≤ b → w'.heap[b]? = w.heap[b]?) : w'.ownsRow base e size v n xs := by
  rcases h with ⟨hl, h0 | ⟨g, cp, cur, h0, h1, h2, h3⟩⟩
  · exact ⟨hl, .inl h0⟩
  · exact ⟨hl, .inr ⟨g, cp, cur, h0, h1, (hb g cur (by rw [h0]; rfl) h2 h1).trans h2, h3⟩⟩
theorem kind_of {w : World} {base : Nat} {e : TypeId} {size : Nat} {v : Value} {n k : Nat} {xs : List Value} (h : w.ownsRow base e size v n xs) (hk : v.ownBlock = some k) : ∃ cur, w.heap[k]? = some (.cells cur e (0, 0)) := by
  rcases h.2 with ⟨rfl, _⟩ | ⟨g, cap, cur, rfl, _, h1, _⟩
  · cases hk
  · injection hk with hk
    subst hk
    exact ⟨cur, h1⟩
theorem OG.of {w w' : World} {base cap : Nat} {A : Option Addr} {xs : List Pv} (h : OG w base A cap xs) (hb : ∀ (b : Nat) (cur : Array Value) (t : TypeId), w.heap[b]? = some (.cells cur t (0, 0)) → t = 57 ∨ t = 68 → w'.heap[b]? = w.heap[b]?) : OG w' base A cap xs :=
  ⟨row_of h.o (fun b cur _ hc _ => hb b cur 57 hc (.inl rfl)), fun i hi => row_of (h.d i hi) (fun b cur _ hc _ => hb b cur 68 hc (.inr rfl)), h.ap⟩

/-- A builder that has taken k sets of a chart. -/
structure CO (w0 : World) (base bb bm : Nat) (A : Option Addr) (cap : Nat) (z : List Pv) (hd : Int) (uh : Value) (ts : List (List Sy)) (k n : Nat) (sv : Value) (vs : List Value) (cs : List Nat) (w : World) : Prop where
  b : Own w bb 91 [.int .i64 hd, .slice A z.length cap, uh, sv, .map (some bm)]
  g : OG w w0.heap.size A cap z
  s : w.ownsRow base 52 1 sv k vs
  c : ∀ j (h : j < ts.length), j < k → ∃ v, vs[j]? = some v ∧ itRow w base v ts[j] ∧ ∀ q, v.ownBlock = some q → q ∈ cs
  m : GM w base bm n cs
  cl : ∀ c ∈ cs, c < w.heap.size
  bs : base ≤ w.heap.size
  bl : Below w0.heap.size w0 w

section
variable {w0 w w' : World} {base bb bm cap k n : Nat} {A : Option Addr} {z : List Pv} {hd : Int} {uh sv : Value} {ts : List (List Sy)} {vs : List Value} {cs : List Nat}

theorem CO.keep (h : CO w0 base bb bm A cap z hd uh ts k n sv vs cs w) (hb : Below w.heap.size w w') : CO w0 base bb bm A cap z hd uh ts k n sv vs cs w' :=
  ⟨h.b.keep hb, h.g.keep hb, own_keep h.s hb, fun j hj hk => by
    obtain ⟨v, h1, h2, h3⟩ := h.c j hj hk
    exact ⟨v, h1, own_keep h2 hb, h3⟩, h.m.keep hb, fun c hc => Nat.lt_of_lt_of_le (h.cl c hc) hb.size, Nat.le_trans h.bs hb.size, h.bl.trans (hb.mono h.bl.size)⟩

theorem CO.cell (h : CO w0 base bb bm A cap z hd uh ts k n sv vs cs w) : w.cell? ⟨bb, 1, none⟩ = some (.slice A z.length cap) ∧ w.cell? ⟨bb, 3, none⟩ = some sv ∧ w.cell? ⟨bb, 4, none⟩ = some (.map (some bm)) ∧ w.frozen? ⟨bb, 3, none⟩ = false :=
  ⟨by rw [h.b.cell]; rfl, by rw [h.b.cell]; rfl, by rw [h.b.cell]; rfl, h.b.frozen 3⟩

/-- Behind await. -/
theorem CO.await (h : CO w0 base bb bm A cap z hd uh ts k n sv vs cs w) (hf : AwF base bm cs w w') (hm : GM w' base bm (n + 1) cs) (h0 : w0.heap.size ≤ base) (hbm : w0.heap.size ≤ bm) (hne : bb ≠ bm) : CO w0 base bb bm A cap z hd uh ts k (n + 1) sv vs cs w' := by
  have nmap : ∀ (q : Nat) (cur : Array Value) (t : TypeId), w.heap[q]? = some (.cells cur t (0, 0)) → q ≠ bm := fun q cur t hq e => by
    obtain ⟨es, clock, hb, _⟩ := h.m
    rw [e, hb] at hq
    cases hq
  have typ : ∀ (q : Nat) (cur : Array Value) (t : TypeId), w.heap[q]? = some (.cells cur t (0, 0)) → t ≠ 54 → w'.heap[q]? = w.heap[q]? := fun q cur t hq ht => hf.block q (Array.getElem?_eq_some_iff.1 hq).1 (nmap q cur t hq) (fun cur' hc _ => by
    rw [hq] at hc
    injection hc with hc
    injection hc with _ hc
    exact absurd hc ht)
  have hbO : w.heap[bb]? = some (.cells _ 91 (0, 0)) := h.b
  refine ⟨(typ bb _ 91 hbO (by decide)).trans h.b, h.g.of (fun b cur t hb ht => typ b cur t hb (by rcases ht with rfl | rfl <;> decide)), row_of h.s (fun b cur _ hb _ => typ b cur 52 hb (by decide)), fun j hj hk => ?_, hm, fun c hc => Nat.lt_of_lt_of_le (h.cl c hc) hf.size, Nat.le_trans h.bs hf.size, ?_⟩
  · obtain ⟨v, h1, h2, h3⟩ := h.c j hj hk
    exact ⟨v, h1, row_of h2 (fun b cur hv hb _ => hf.block b (Array.getElem?_eq_some_iff.1 hb).1 (nmap b cur 54 hb) (fun _ _ _ => h3 b hv)), h3⟩
  · refine ⟨hf.os.trans h.bl.os, hf.tape.trans h.bl.tape, hf.output.trans h.bl.output, Nat.le_trans h.bl.size hf.size, fun q hq => ?_⟩
    exact (hf.block q (Nat.lt_of_lt_of_le hq h.bl.size) (by omega) (fun _ _ h2 => by omega)).trans (h.bl.block q hq)

/-- Behind the taking of one more set: its copy was made, and put behind the others. -/
theorem CO.push (h : CO w0 base bb bm A cap z hd uh ts k n sv vs cs w) (hk : k < ts.length) {cv sv' : Value} {q : Nat} (hcv : itRow w base cv ts[k]) (hq : ∀ b, cv.ownBlock = some b → b = q) (hql : q < w.heap.size) (hqm : GM w base bm n (q :: cs))
    {w1 : World} (hs : w1.ownsRow base 52 1 sv' (k + 1) (vs ++ [cv])) (hg : w.grownBy w1 sv.ownBlock) (hb0 : w0.heap.size ≤ base) (hbb : w0.heap.size ≤ bb) : CO w0 base bb bm A cap z hd uh ts (k + 1) n sv' (vs ++ [cv]) (q :: cs) (w1.setCell ⟨bb, 3, none⟩ sv') := by
  have hsl : vs.length = k := by have := h.s.1; omega
  have typ : ∀ (b : Nat) (cur : Array Value) (t : TypeId), w.heap[b]? = some (.cells cur t (0, 0)) → t ≠ 52 → w1.heap[b]? = w.heap[b]? := fun b cur t hb ht => hg.block b (Array.getElem?_eq_some_iff.1 hb).1 (fun e => by
    obtain ⟨cur', hc⟩ := kind_of h.s e.symm
    rw [hb] at hc
    injection hc with hc
    injection hc with _ hc
    exact ht hc)
  have hbO : w.heap[bb]? = some (.cells _ 91 (0, 0)) := h.b
  have hb1 : Own w1 bb 91 [.int .i64 hd, .slice A z.length cap, uh, sv, .map (some bm)] := (typ bb _ 91 hbO (by decide)).trans h.b
  have far : ∀ (b : Nat) (cur : Array Value) (t : TypeId), w1.heap[b]? = some (.cells cur t (0, 0)) → t ≠ 91 → (w1.setCell ⟨bb, 3, none⟩ sv').heap[b]? = w1.heap[b]? := fun b cur t hb ht => Below.heap_setCell w1 ⟨bb, 3, none⟩ sv' b (fun e => by
    have e' : b = bb := e
    have hb2 : w1.heap[bb]? = some (.cells _ 91 (0, 0)) := hb1
    rw [e', hb2] at hb
    injection hb with hb
    injection hb with _ hb
    exact ht hb.symm)
  have both : ∀ (b : Nat) (cur : Array Value) (t : TypeId), w.heap[b]? = some (.cells cur t (0, 0)) → t ≠ 52 → t ≠ 91 → (w1.setCell ⟨bb, 3, none⟩ sv').heap[b]? = w.heap[b]? := fun b cur t hb h5 h6 => (far b cur t ((typ b cur t hb h5).trans hb) h6).trans (typ b cur t hb h5)
  refine ⟨hb1.set_ 3 sv', h.g.of (fun b cur t hb ht => both b cur t hb (by rcases ht with rfl | rfl <;> decide) (by rcases ht with rfl | rfl <;> decide)), row_of hs (fun b cur _ hb _ => far b cur 52 hb (by decide)), fun j hj hjk => ?_, ?_, fun c hc => ?_, ?_, ?_⟩
  · by_cases e : j < k
    · obtain ⟨v, h1, h2, h3⟩ := h.c j hj e
      refine ⟨v, ?_, row_of h2 (fun b cur _ hb _ => both b cur 54 hb (by decide) (by decide)), fun b hb => List.mem_cons_of_mem _ (h3 b hb)⟩
      rw [List.getElem?_append_left (by omega)]; exact h1
    · have e' : j = k := by omega
      subst e'
      refine ⟨cv, ?_, row_of hcv (fun b cur _ hb _ => both b cur 54 hb (by decide) (by decide)), fun b hb => by rw [hq b hb]; exact List.mem_cons_self⟩
      rw [List.getElem?_append_right (by omega), hsl]; simp
  · refine hqm.frame (fun b hb hh => ?_)
    rcases hh with rfl | ⟨⟨cur, hc⟩, _, _⟩
    · obtain ⟨es, clock, hbm, _⟩ := hqm
      have n1 : some b ≠ sv.ownBlock := fun e => by
        obtain ⟨cur', hc⟩ := kind_of h.s e.symm
        rw [hbm] at hc
        cases hc
      have n2 : b ≠ bb := fun e => by
        rw [e, hbO] at hbm
        cases hbm
      exact (Below.heap_setCell w1 ⟨bb, 3, none⟩ sv' b (fun e => n2 e)).trans (hg.block b hb n1)
    · exact both b cur 54 hc (by decide) (by decide)
  · have hz : (w1.setCell ⟨bb, 3, none⟩ sv').heap.size = w1.heap.size := by simp
    rw [hz]
    rcases List.mem_cons.1 hc with rfl | hc
    · exact Nat.lt_of_lt_of_le hql hg.size
    · exact Nat.lt_of_lt_of_le (h.cl c hc) hg.size
  · have hz : (w1.setCell ⟨bb, 3, none⟩ sv').heap.size = w1.heap.size := by simp
    rw [hz]
    exact Nat.le_trans h.bs hg.size
  · exact (h.bl.grown hg h.bl.size (fun j hj => by have := (h.s.lt j hj).1; omega)).setCell hbb _

/-- All sets are taken. -/
theorem CO.sts {S : Option Addr} {sc : Nat} (h : CO w0 base bb bm A cap z hd uh ts ts.length n (.slice S ts.length sc) vs cs w) : Sts w S ts := by
  rcases h.s.2 with ⟨h0, h1⟩ | ⟨g, cp, cur, h0, h1, h2, h3, h4, h5, h6⟩
  · exact .inl (List.eq_nil_of_length_eq_zero h1)
  · injection h0 with e1 e2 e3
    subst e1
    refine .inr ⟨g, 0, rfl, fun i hi => ?_⟩
    obtain ⟨v, hv1, hv2, _⟩ := h.c i hi hi
    obtain ⟨K, kc, rfl⟩ := own_form hv2
    refine ⟨K, kc, ?_, (own_rowN hv2).syms⟩
    have := own_cellN h.s i _ hv1
    rw [Nat.zero_add]; exact this
end

end Go.Proofs.Ytafldjbmheopjaa
