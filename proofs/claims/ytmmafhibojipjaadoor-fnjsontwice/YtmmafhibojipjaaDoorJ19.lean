/- A builder through a range over parts; impl.jsonParts. -/
import Derived.Test.YtmmafhibojipjaaDoorJ18
import Derived.Test.YtmmafhibojipjaaDoorW3
import Derived.Shelf.Strings.BuilderK
namespace Go.Proofs.YtmmafhibojipjaaDoor
open Go.RowKit Go.Shelf
set_option linter.unusedVariables false
attribute [local go_sem] Oper.semAt_some

/-- A builder that has some bytes; what else lies is kept when it is written. -/
def BUF (B b : Nat) (l : List UInt8) (w : World) : Prop := Lib.IsBuilderF 49 5 B b (Lib.byteCells l) w
theorem BUF.write (B b : Nat) (l : List UInt8) (s : ByteArray) (w : World) (h : BUF B b l w) (hlen : l.length + s.size ≤ 10000000) (hBw : B ≤ w.heap.size) :
    Calls Tryd.prog 30 #[.pointer (some ⟨b, 0, none⟩), .string s] w fun e w' => e = .returned (.tuple #[.int .i64 s.size, .nilIface]) ∧ BUF B b (l ++ bl s) w' ∧ Below B w w' ∧ Lib.OthersKept 5 (some b) w w' :=
  (Any.Builder_WriteString_k Tryd.lays166 Tryd.lays166_extra B b (Lib.byteCells l) s w h (by rw [Lib.byteCells_length]; omega) hBw).mono fun e w' ⟨h1, h2, h3, h4⟩ => ⟨h1, .inr (by rw [Lib.byteCells_append]; exact h2), h3, h4⟩
theorem BUF.string (B b : Nat) (l : List UInt8) (w : World) (h : BUF B b l w) (hBw : B ≤ w.heap.size) :
    Calls Tryd.prog 31 #[.pointer (some ⟨b, 0, none⟩)] w fun e w' => e = .returned (.string ⟨l.toArray⟩) ∧ Below B w w' ∧ Lib.OthersKept 5 (some b) w w' := (Any.Builder_String_any_k Tryd.lays169 Tryd.Builder_Extra_169 B b l w h hBw).mono fun _ _ ⟨h1, _, h3, h4⟩ => ⟨h1, h3, h4⟩
theorem BUF.len (B b : Nat) (l : List UInt8) (w : World) (h : BUF B b l w) :
    Calls Tryd.prog 29 #[.pointer (some ⟨b, 0, none⟩)] w fun e w' => e = .returned (.int .i64 l.length) ∧ w = w' := by
  have := Any.Builder_Len_f Tryd.lays170 B b (Lib.byteCells l) w h
  rw [Lib.byteCells_length] at this
  exact this.mono fun _ _ ⟨h1, h2⟩ => ⟨h1, h2.symm⟩
theorem BUF.new (w : World) : BUF w.heap.size w.heap.size [] (w.alloc (.cells #[.pointer none, .slice none 0 0] 49)) := Lib.IsBuilderF.of (BU.new w)
theorem BUF.kept {B b : Nat} {l : List UInt8} {w w' : World} {row : Option Nat} (h : BUF B b l w) (hg : w.grownBy w' row) (hr : ∀ r, row = some r → ∃ o : Obj, w.heap[r]? = some o ∧ o.isCells = false) : BUF B b l w' := by
  have hcell : ∀ (k : Nat) (cs : Array Value) (t : TypeId) (fz : Nat × Nat), w.heap[k]? = some (Obj.cells cs t fz) → w'.heap[k]? = some (Obj.cells cs t fz) := fun k cs t fz hk => by
    refine (hg.block k (Array.getElem?_eq_some_iff.1 hk).1 (fun e => ?_)).trans hk
    obtain ⟨o, ho, hc⟩ := hr k e.symm
    rw [hk] at ho; injection ho with ho; subst ho; cases hc
  have hrow : ∀ {base : Nat} {e : TypeId} {sz : Nat} {v : Value} {n : Nat} {xs : List Value}, w.ownsRowF base e sz v n xs → w'.ownsRowF base e sz v n xs := fun h => by
    refine ⟨h.1, ?_⟩
    rcases h.2 with h | ⟨g, cap, cur, fz, h1, h2, h3, h4⟩
    · exact .inl h
    · exact .inr ⟨g, cap, cur, fz, h1, h2, hcell _ _ _ _ h3, h4⟩
  rcases h with h | h
  · obtain ⟨hB, v, hv, hown, hne⟩ := h
    exact .inl ⟨hB, v, hcell _ _ _ _ hv, hrow hown, hne⟩
  · obtain ⟨hB, v, hv, hown, hne⟩ := h
    exact .inr ⟨hB, v, hcell _ _ _ _ hv, hrow hown, hne⟩
theorem BUF.keep {B b : Nat} {l : List UInt8} {w w' : World} (h : BUF B b l w) (hb : Below w.heap.size w w') : BUF B b l w' :=
  h.kept (row := none) ⟨hb.os, hb.tape, hb.output, hb.size, fun k hk _ => hb.block k hk⟩ (fun r e => by cases e)
theorem BUF.lt {B b : Nat} {l : List UInt8} {w : World} (h : BUF B b l w) : b < w.heap.size := by
  rcases h with h | h <;> exact h.lt
theorem BUF.cells {B b : Nat} {l : List UInt8} {w : World} (h : BUF B b l w) : ∃ cs t fz, w.heap[b]? = some (Obj.cells cs t fz) := by
  rcases h with h | h
  · obtain ⟨hB, v, hv, _⟩ := h; exact ⟨_, _, _, hv⟩
  · obtain ⟨hB, v, hv, _⟩ := h; exact ⟨_, _, _, hv⟩

theorem kc_of {b : Nat} {w w' : World} (h : Lib.OthersKept 5 (some b) w w') : KC b w w' := fun k cs t fr hk hb ht =>
  h k _ hk (fun e => hb (by injection e)) (fun c fz e => ht (by injection e))
theorem ko_of {B b : Nat} {l : List UInt8} {w w' : World} (hb : BUF B b l w) (hs : w.heap.size ≤ w'.heap.size) (h : Lib.OthersKept 5 (some b) w w') : KeepsOthers w w' := ⟨hs, fun k o hk ho =>
  h k o hk (fun e => by injection e with e; subst e; obtain ⟨cs, t, fz, hc⟩ := hb.cells; rw [hk] at hc; injection hc with hc; subst hc; cases ho) (fun c fz e => by subst e; cases ho)⟩
theorem KC.trans {b : Nat} {x y z : World} (h : KC b x y) (k : KC b y z) : KC b x z := fun i cs t fr hi hb ht => k i cs t fr (h i cs t fr hi hb ht) hb ht
theorem KC.of_below {b : Nat} {w w' : World} (h : Below w.heap.size w w') : KC b w w' := fun k cs t fr hk _ _ => (h.block k (Array.getElem?_eq_some_iff.1 hk).1).trans hk
theorem KC.put {b : Nat} {w : World} {l : Nat} {o o' : Obj} (hl : w.heap[l]? = some o) (ho : o.isCells = false) : KC b w (w.putObj l o') := fun k cs t fr hk _ _ => by
  have hne : k ≠ l := fun e => by subst e; rw [hk] at hl; injection hl with hl; subst hl; cases ho
  exact ((grownBy_putObj' w l o').block k (Array.getElem?_eq_some_iff.1 hk).1 (fun e => hne (by injection e))).trans hk

/-- What a round of the caller keeps. -/
def Kp (b n0 : Nat) (w w' : World) : Prop := Below n0 w w' ∧ KC b w w'

theorem roundAny {m m' : Nat} {P : Program} {l : Nat} {f : FuncId} {tmps : Array Value} {assign body : Code} {w : World} {R : Ending → World → Prop}
    (h : RoundIn Fence.wide m P l f tmps assign body w R) : RoundIn Fence.wide m' P l f tmps assign body w R := ⟨h.1, fun c cs _ => h.2 c cs (fun d h => by cases h)⟩
theorem yieldAny {m : Nat} (m' : Nat) {P : Program} {l : Nat} {args : Array Value} {W : World} {R : Ending → World → Prop} (h : YieldAt Fence.wide m P l args W R) : YieldAt Fence.wide m' P l args W R := by
  obtain ⟨fn, tmps, assign, body, hy, hR⟩ := h
  exact ⟨fn, tmps, assign, body, hy, roundAny hR⟩

set_option maxRecDepth 100000 in
set_option maxHeartbeats 2000000 in
/-- impl.jsonParts's closure: all parts, or the first ones. -/
theorem parts_stops (m : Nat) (bb Bt : Nat) (k : Int) (f : Bool) (t : ByteArray) (ns : List ByteArray) (kids : List Js) (A K : Option Addr) (ca kc B0 : Nat) (w0 w : World)
    (hv : JsV w0 B0 ns kids A K) (ho : JokP (.mk k f t ns kids)) (hl : LimJ 1048576 (.mk k f t ns kids)) (hb : Below w0.heap.size w0 w) (hbb : bb < w.heap.size)
    (hc : Own w Bt 26 [.int .i64 k, .bool f, .string t, .slice A ns.length ca, .slice K kids.length kc]) :
    SeqStopsK Fence.wide m Tryd.prog 52 #[.pointer (some ⟨Bt, 0, none⟩)] (fun x : Sub => #[Value.string x.1]) (Kp bb w0.heap.size) (fun ys => ys = (parts (.mk k f t ns kids)).map cl) (fun pre => pre <+: (parts (.mk k f t ns kids)).map cl) (parts (.mk k f t ns kids)).length w := by
  intro l J Jx W hW hJ hJx hY h0
  have hYS : YS l (parts (.mk k f t ns kids)).length bb w0 (fun s X => J s X ∧ bb < X.heap.size ∧ W.heap.size ≤ X.heap.size) Jx := by
    refine ⟨fun s X X' h hX => ⟨hJ s X X' none h.1 ⟨hX.os, hX.tape, hX.output, hX.size, fun k hk _ => hX.block k hk⟩ (fun r e => by cases e), Nat.lt_of_lt_of_le h.2.1 hX.size, Nat.le_trans h.2.2 hX.size⟩, fun s X h => h.2.1, fun m' pre x X h hlen => ?_⟩
    refine (yieldAny m' (hY pre x X h.1 hlen)).mono ?_
    rintro e X' (⟨he, hj, hk⟩ | ⟨he, hj⟩)
    · exact .inl ⟨he, ⟨hj, Nat.lt_of_lt_of_le h.2.1 hk.1.size, Nat.le_trans h.2.2 hk.1.size⟩, hk.1, hk.2⟩
    · exact .inr ⟨he, hj⟩
  have hc' := hc.keep hW
  have hbW : Below w0.heap.size w0 W := hb.trans (hW.mono hb.size)
  have HC := Lib.hid (yield_all hYS (htJ kids + 1) k f t ns kids A K ca kc B0 (m - 1) [] W (Nat.le_refl _) hv ho hl hbW ⟨h0, Nat.lt_of_lt_of_le hbb hW.size, Nat.le_refl _⟩ (by simp))
  have c0 : W.cell? ⟨Bt, 0, none⟩ = some (.int .i64 k) := by rw [hc'.cell]; rfl
  have c1 : W.cell? ⟨Bt, 1, none⟩ = some (.bool f) := by rw [hc'.cell]; rfl
  have c2 : W.cell? ⟨Bt, 2, none⟩ = some (.string t) := by rw [hc'.cell]; rfl
  have c3 : W.cell? ⟨Bt, 3, none⟩ = some (.slice A ns.length ca) := by rw [hc'.cell]; rfl
  have c4 : W.cell? ⟨Bt, 4, none⟩ = some (.slice K kids.length kc) := by rw [hc'.cell]; rfl
  have cl0 := hc'.lt
  clear hYS hc hc' hv ho hl
  have wfn : ∀ k, Fence.wide.fn k := fun _ => trivial
  have wdp : Fence.wide.depth.isSome = false := rfl
  show CallsIn Fence.wide m Tryd.prog 52 #[.func (.yield l) #[] #[], .pointer (some ⟨Bt, 0, none⟩)] W _
  refine callsIn_of_wp Tryd.func52 rfl trivial ?_ rfl
  simp only [Tryd.ntmps52, List.size_toArray, List.length_cons, List.length_nil, Nat.reduceAdd, Nat.reduceSub, Array.replicate_succ, Array.replicate_zero, List.push_toArray, List.append_toArray, List.nil_append, List.cons_append]
  gi_wp2_with (gi_at_call 53; refine HC.out.mono ?_; rintro e W1 (⟨rfl, hJ1, _⟩ | ⟨rfl, q, hq, hx⟩))
  · go_end0
    exact ⟨⟨_, rfl⟩, .inl ⟨_, rfl, by simpa using hJ1.1⟩⟩
  · go_end0
    exact ⟨⟨_, rfl⟩, .inr ⟨q, hq, by simpa using hx⟩⟩

set_option maxRecDepth 100000 in
theorem jsonParts_any (k : Int) (f : Bool) (t : ByteArray) (ns : List ByteArray) (kids : List Js) (A K : Option Addr) (ca kc : Nat) (w : World) :
    Calls Tryd.prog 28 #[.agg #[.int .i64 k, .bool f, .string t, .slice A ns.length ca, .slice K kids.length kc]] w fun e w' => e = .returned (.func (.func 52) #[] #[.pointer (some ⟨w.heap.size, 0, none⟩)]) ∧ w' = w.alloc (.cells #[.int .i64 k, .bool f, .string t, .slice A ns.length ca, .slice K kids.length kc] 26) := by
  go_enter Tryd.func28, Tryd.ntmps28
  go_wp2
  go_ret
  exact ⟨rfl, rfl⟩

end Go.Proofs.YtmmafhibojipjaaDoor
