/- impl.jsonCheck.fits: every value (written by tools/json/gen_j13.py). -/
import Derived.Test.YtmmafhibojipjaaDoorJ12
namespace Go.Proofs.YtmmafhibojipjaaDoor
open Go.RowKit
set_option linter.unusedVariables false

theorem met1 (x : Value) (w : World) : (method 250 93 x "loop.example/fretwork/impl.kids").run Tryd.prog w = .ok (126, x) w := by kernel_rfl
theorem ent1 (x : Array Value) (w : World) : (callFunc 126 x).run Tryd.prog w = .ok (.enter 126 x) w := by simp [callFunc, go_sem, Tryd.func126, Tryd.f126]

theorem met2 (x : Value) (w : World) : (method 250 94 x "loop.example/fretwork/impl.kids").run Tryd.prog w = .ok (127, x) w := by kernel_rfl
theorem ent2 (x : Array Value) (w : World) : (callFunc 127 x).run Tryd.prog w = .ok (.enter 127 x) w := by simp [callFunc, go_sem, Tryd.func127, Tryd.f127]

theorem met3 (x : Value) (w : World) : (method 250 95 x "loop.example/fretwork/impl.kids").run Tryd.prog w = .ok (128, x) w := by kernel_rfl
theorem ent3 (x : Array Value) (w : World) : (callFunc 128 x).run Tryd.prog w = .ok (.enter 128 x) w := by simp [callFunc, go_sem, Tryd.func128, Tryd.f128]

theorem met4 (x : Value) (w : World) : (method 250 96 x "loop.example/fretwork/impl.kids").run Tryd.prog w = .ok (129, x) w := by kernel_rfl
theorem ent4 (x : Array Value) (w : World) : (callFunc 129 x).run Tryd.prog w = .ok (.enter 129 x) w := by simp [callFunc, go_sem, Tryd.func129, Tryd.f129]

theorem met5 (x : Value) (w : World) : (method 250 97 x "loop.example/fretwork/impl.kids").run Tryd.prog w = .ok (130, x) w := by kernel_rfl
theorem ent5 (x : Array Value) (w : World) : (callFunc 130 x).run Tryd.prog w = .ok (.enter 130 x) w := by simp [callFunc, go_sem, Tryd.func130, Tryd.f130]

theorem met6 (x : Value) (w : World) : (method 250 99 x "loop.example/fretwork/impl.kids").run Tryd.prog w = .ok (131, x) w := by kernel_rfl
theorem ent6 (x : Array Value) (w : World) : (callFunc 131 x).run Tryd.prog w = .ok (.enter 131 x) w := by simp [callFunc, go_sem, Tryd.func131, Tryd.f131]

theorem fit1 {d : Nat} (IH : FitP d) (hd8 : d ≤ 4) (f : Bool) (t : ByteArray) (ns : List ByteArray) (kids : List Js) (A K : Option Addr) (ca kc B0 g : Nat) (L dp : Int) (w0 w : World) (hv : JsV w0 B0 ns kids A K) (hl : LimJ 1048576 (.mk 1 f t ns kids)) (hle : ns.length ≤ ca) (hb0 : Below w0.heap.size w0 w) (hg : w0.heap.size ≤ g) (ho : Own w g 46 [.int .i64 L]) (h0 : 0 ≤ L) (h1 : L ≤ 40) (hdp : dp + (d : Int) = 5) (hbare : BareJ 1 f t ns kids) :
    Calls Tryd.prog 27 #[.pointer (some ⟨g, 0, none⟩), .agg #[.int .i64 1, .bool f, .string t, .slice A ns.length ca, .slice K kids.length kc], .int .i64 dp] w (FitPost g L (htJ kids + 1 ≤ d + 1 ∧ JokP (.mk 1 f t ns kids)) (nodesJ kids + 1) false w) := by
  have hl' := hl
  cases hl' with
  | mk _ _ _ _ _ l1 l2 l3 l4 l5 =>
  have hk0 : kids = [] := List.eq_nil_of_length_eq_zero (hbare.2.2.1 (by omega))
  subst hk0
  refine fitCore IH hd8 93 (.agg #[]) 126 none 0 (True) 1 f t ns [] A K ca kc B0 g L dp w0 w hv hl hle hb0 hg ho h0 h1 hdp
    (fun w => (valueOf_any 1 f t ns [] A K ca kc w l2 l4).mono fun e w' ⟨x, h1, h2, h3⟩ => ⟨?_, h3⟩) (fun w => met1 _ w) (fun w => ent1 _ w) (fun w => kids93 w) Jss.nil (fun w' _ => wf_93 _ w') ?_
  · rcases h2 with ⟨_, rfl⟩ | ⟨h, _⟩
    · rw [h1]; unfold valJ; simp
    · exact absurd ⟨by unfold KindP; omega, hbare⟩ h
  · rw [one_iff]
    refine ⟨fun h => ?_, fun h => ⟨hbare, ?_⟩⟩
    · have := h.2; unfold TailJ at this; trivial
    · unfold TailJ; simp

theorem fit2 {d : Nat} (IH : FitP d) (hd8 : d ≤ 4) (f : Bool) (t : ByteArray) (ns : List ByteArray) (kids : List Js) (A K : Option Addr) (ca kc B0 g : Nat) (L dp : Int) (w0 w : World) (hv : JsV w0 B0 ns kids A K) (hl : LimJ 1048576 (.mk 2 f t ns kids)) (hle : ns.length ≤ ca) (hb0 : Below w0.heap.size w0 w) (hg : w0.heap.size ≤ g) (ho : Own w g 46 [.int .i64 L]) (h0 : 0 ≤ L) (h1 : L ≤ 40) (hdp : dp + (d : Int) = 5) (hbare : BareJ 2 f t ns kids) :
    Calls Tryd.prog 27 #[.pointer (some ⟨g, 0, none⟩), .agg #[.int .i64 2, .bool f, .string t, .slice A ns.length ca, .slice K kids.length kc], .int .i64 dp] w (FitPost g L (htJ kids + 1 ≤ d + 1 ∧ JokP (.mk 2 f t ns kids)) (nodesJ kids + 1) false w) := by
  have hl' := hl
  cases hl' with
  | mk _ _ _ _ _ l1 l2 l3 l4 l5 =>
  have hk0 : kids = [] := List.eq_nil_of_length_eq_zero (hbare.2.2.1 (by omega))
  subst hk0
  refine fitCore IH hd8 94 (.bool f) 127 none 0 (True) 2 f t ns [] A K ca kc B0 g L dp w0 w hv hl hle hb0 hg ho h0 h1 hdp
    (fun w => (valueOf_any 2 f t ns [] A K ca kc w l2 l4).mono fun e w' ⟨x, h1, h2, h3⟩ => ⟨?_, h3⟩) (fun w => met2 _ w) (fun w => ent2 _ w) (fun w => kids94 f w) Jss.nil (fun w' _ => wf_94 _ w') ?_
  · rcases h2 with ⟨_, rfl⟩ | ⟨h, _⟩
    · rw [h1]; unfold valJ; simp
    · exact absurd ⟨by unfold KindP; omega, hbare⟩ h
  · rw [one_iff]
    refine ⟨fun h => ?_, fun h => ⟨hbare, ?_⟩⟩
    · have := h.2; unfold TailJ at this; trivial
    · unfold TailJ; simp

theorem fit3 {d : Nat} (IH : FitP d) (hd8 : d ≤ 4) (f : Bool) (t : ByteArray) (ns : List ByteArray) (kids : List Js) (A K : Option Addr) (ca kc B0 g : Nat) (L dp : Int) (w0 w : World) (hv : JsV w0 B0 ns kids A K) (hl : LimJ 1048576 (.mk 3 f t ns kids)) (hle : ns.length ≤ ca) (hb0 : Below w0.heap.size w0 w) (hg : w0.heap.size ≤ g) (ho : Own w g 46 [.int .i64 L]) (h0 : 0 ≤ L) (h1 : L ≤ 40) (hdp : dp + (d : Int) = 5) (hbare : BareJ 3 f t ns kids) :
    Calls Tryd.prog 27 #[.pointer (some ⟨g, 0, none⟩), .agg #[.int .i64 3, .bool f, .string t, .slice A ns.length ca, .slice K kids.length kc], .int .i64 dp] w (FitPost g L (htJ kids + 1 ≤ d + 1 ∧ JokP (.mk 3 f t ns kids)) (nodesJ kids + 1) false w) := by
  have hl' := hl
  cases hl' with
  | mk _ _ _ _ _ l1 l2 l3 l4 l5 =>
  have hk0 : kids = [] := List.eq_nil_of_length_eq_zero (hbare.2.2.1 (by omega))
  subst hk0
  refine fitCore IH hd8 95 (.string t) 128 none 0 (NumP t) 3 f t ns [] A K ca kc B0 g L dp w0 w hv hl hle hb0 hg ho h0 h1 hdp
    (fun w => (valueOf_any 3 f t ns [] A K ca kc w l2 l4).mono fun e w' ⟨x, h1, h2, h3⟩ => ⟨?_, h3⟩) (fun w => met3 _ w) (fun w => ent3 _ w) (fun w => kids95 t w) Jss.nil (fun w' _ => wf3 t w' l1) ?_
  · rcases h2 with ⟨_, rfl⟩ | ⟨h, _⟩
    · rw [h1]; unfold valJ; simp
    · exact absurd ⟨by unfold KindP; omega, hbare⟩ h
  · rw [one_iff]
    refine ⟨fun h => ?_, fun h => ⟨hbare, ?_⟩⟩
    · have := h.2; unfold TailJ at this; simpa using this
    · unfold TailJ; simpa using h

theorem fit4 {d : Nat} (IH : FitP d) (hd8 : d ≤ 4) (f : Bool) (t : ByteArray) (ns : List ByteArray) (kids : List Js) (A K : Option Addr) (ca kc B0 g : Nat) (L dp : Int) (w0 w : World) (hv : JsV w0 B0 ns kids A K) (hl : LimJ 1048576 (.mk 4 f t ns kids)) (hle : ns.length ≤ ca) (hb0 : Below w0.heap.size w0 w) (hg : w0.heap.size ≤ g) (ho : Own w g 46 [.int .i64 L]) (h0 : 0 ≤ L) (h1 : L ≤ 40) (hdp : dp + (d : Int) = 5) (hbare : BareJ 4 f t ns kids) :
    Calls Tryd.prog 27 #[.pointer (some ⟨g, 0, none⟩), .agg #[.int .i64 4, .bool f, .string t, .slice A ns.length ca, .slice K kids.length kc], .int .i64 dp] w (FitPost g L (htJ kids + 1 ≤ d + 1 ∧ JokP (.mk 4 f t ns kids)) (nodesJ kids + 1) false w) := by
  have hl' := hl
  cases hl' with
  | mk _ _ _ _ _ l1 l2 l3 l4 l5 =>
  have hk0 : kids = [] := List.eq_nil_of_length_eq_zero (hbare.2.2.1 (by omega))
  subst hk0
  refine fitCore IH hd8 96 (.string t) 129 none 0 (QuoP t) 4 f t ns [] A K ca kc B0 g L dp w0 w hv hl hle hb0 hg ho h0 h1 hdp
    (fun w => (valueOf_any 4 f t ns [] A K ca kc w l2 l4).mono fun e w' ⟨x, h1, h2, h3⟩ => ⟨?_, h3⟩) (fun w => met4 _ w) (fun w => ent4 _ w) (fun w => kids96 t w) Jss.nil (fun w' _ => wf4 t w' l1) ?_
  · rcases h2 with ⟨_, rfl⟩ | ⟨h, _⟩
    · rw [h1]; unfold valJ; simp
    · exact absurd ⟨by unfold KindP; omega, hbare⟩ h
  · rw [one_iff]
    refine ⟨fun h => ?_, fun h => ⟨hbare, ?_⟩⟩
    · have := h.2; unfold TailJ at this; simpa using this
    · unfold TailJ; simpa using h

theorem fit5 {d : Nat} (IH : FitP d) (hd8 : d ≤ 4) (f : Bool) (t : ByteArray) (ns : List ByteArray) (kids : List Js) (A K : Option Addr) (ca kc B0 g : Nat) (L dp : Int) (w0 w : World) (hv : JsV w0 B0 ns kids A K) (hl : LimJ 1048576 (.mk 5 f t ns kids)) (hle : ns.length ≤ ca) (hb0 : Below w0.heap.size w0 w) (hg : w0.heap.size ≤ g) (ho : Own w g 46 [.int .i64 L]) (h0 : 0 ≤ L) (h1 : L ≤ 40) (hdp : dp + (d : Int) = 5) (hbare : BareJ 5 f t ns kids) :
    Calls Tryd.prog 27 #[.pointer (some ⟨g, 0, none⟩), .agg #[.int .i64 5, .bool f, .string t, .slice A ns.length ca, .slice K kids.length kc], .int .i64 dp] w (FitPost g L (htJ kids + 1 ≤ d + 1 ∧ JokP (.mk 5 f t ns kids)) (nodesJ kids + 1) false w) := by
  have hl' := hl
  cases hl' with
  | mk _ _ _ _ _ l1 l2 l3 l4 l5 =>
  refine fitCore IH hd8 97 (.slice K kids.length kc) 130 K kc (True) 5 f t ns kids A K ca kc B0 g L dp w0 w hv hl hle hb0 hg ho h0 h1 hdp
    (fun w => (valueOf_any 5 f t ns kids A K ca kc w l2 l4).mono fun e w' ⟨x, h1, h2, h3⟩ => ⟨?_, h3⟩) (fun w => met5 _ w) (fun w => ent5 _ w) (fun w => kids97 K kids.length kc w) hv.k (fun w' _ => wf_97 _ w') ?_
  · rcases h2 with ⟨_, rfl⟩ | ⟨h, _⟩
    · rw [h1]; unfold valJ; simp
    · exact absurd ⟨by unfold KindP; omega, hbare⟩ h
  · rw [one_iff]
    refine ⟨fun h => ?_, fun h => ⟨hbare, ?_⟩⟩
    · have := h.2; unfold TailJ at this; trivial
    · unfold TailJ; simp

theorem fit6 {d : Nat} (IH : FitP d) (hd8 : d ≤ 4) (f : Bool) (t : ByteArray) (ns : List ByteArray) (kids : List Js) (A K : Option Addr) (ca kc B0 g : Nat) (L dp : Int) (w0 w : World) (hv : JsV w0 B0 ns kids A K) (hl : LimJ 1048576 (.mk 6 f t ns kids)) (hle : ns.length ≤ ca) (hb0 : Below w0.heap.size w0 w) (hg : w0.heap.size ≤ g) (ho : Own w g 46 [.int .i64 L]) (h0 : 0 ≤ L) (h1 : L ≤ 40) (hdp : dp + (d : Int) = 5) (hbare : BareJ 6 f t ns kids) :
    Calls Tryd.prog 27 #[.pointer (some ⟨g, 0, none⟩), .agg #[.int .i64 6, .bool f, .string t, .slice A ns.length ca, .slice K kids.length kc], .int .i64 dp] w (FitPost g L (htJ kids + 1 ≤ d + 1 ∧ JokP (.mk 6 f t ns kids)) (nodesJ kids + 1) false w) := by
  have hl' := hl
  cases hl' with
  | mk _ _ _ _ _ l1 l2 l3 l4 l5 =>
  refine fitCore IH hd8 99 (.agg #[.slice A ns.length ca, .slice K kids.length kc]) 131 K kc (ns.length = kids.length ∧ NmsP ns) 6 f t ns kids A K ca kc B0 g L dp w0 w hv hl hle hb0 hg ho h0 h1 hdp
    (fun w => (valueOf_any 6 f t ns kids A K ca kc w l2 l4).mono fun e w' ⟨x, h1, h2, h3⟩ => ⟨?_, h3⟩) (fun w => met6 _ w) (fun w => ent6 _ w) (fun w => kids99 _ K kids.length kc w) hv.k (fun w' hw' => wf6 ns kids.length A K ca kc w' (hv.a.keep hw') hle l2 l3) ?_
  · rcases h2 with ⟨_, rfl⟩ | ⟨h, _⟩
    · rw [h1]; unfold valJ; simp
    · exact absurd ⟨by unfold KindP; omega, hbare⟩ h
  · rw [one_iff]
    refine ⟨fun h => ?_, fun h => ⟨hbare, ?_⟩⟩
    · have := h.2; unfold TailJ at this; simpa using this
    · unfold TailJ; simpa using h

theorem fit_all : ∀ d, d ≤ 5 → FitP d
  | 0, _ => by
    intro k f t ns kids A K ca kc B0 g L dp w0 w hv hl hle hb0 hg ho h0 h1 hdp
    exact fitNot k f t ns kids A K ca kc B0 g L dp w0 w hv hl hle hb0 hg ho h0 h1 (by omega) (by omega) _ (fun h => by have := h.1; omega) (.inl (by omega))
  | d + 1, hd => by
    intro k f t ns kids A K ca kc B0 g L dp w0 w hv hl hle hb0 hg ho h0 h1 hdp
    have IH := fit_all d (by omega)
    by_cases hx : KindP k ∧ BareJ k f t ns kids
    · obtain ⟨hk, hbare⟩ := hx
      rcases hk with rfl | rfl | rfl | rfl | rfl | rfl
      · exact fit1 IH (by omega) f t ns kids A K ca kc B0 g L dp w0 w hv hl hle hb0 hg ho h0 h1 (by omega) hbare
      · exact fit2 IH (by omega) f t ns kids A K ca kc B0 g L dp w0 w hv hl hle hb0 hg ho h0 h1 (by omega) hbare
      · exact fit3 IH (by omega) f t ns kids A K ca kc B0 g L dp w0 w hv hl hle hb0 hg ho h0 h1 (by omega) hbare
      · exact fit4 IH (by omega) f t ns kids A K ca kc B0 g L dp w0 w hv hl hle hb0 hg ho h0 h1 (by omega) hbare
      · exact fit5 IH (by omega) f t ns kids A K ca kc B0 g L dp w0 w hv hl hle hb0 hg ho h0 h1 (by omega) hbare
      · exact fit6 IH (by omega) f t ns kids A K ca kc B0 g L dp w0 w hv hl hle hb0 hg ho h0 h1 (by omega) hbare
    · refine fitNot k f t ns kids A K ca kc B0 g L dp w0 w hv hl hle hb0 hg ho h0 h1 (by omega) (by omega) _ (fun h => hx ⟨?_, (one_iff.1 h.2.one).1⟩) (.inr hx)
      have := (one_iff.1 h.2.one).2
      unfold TailJ at this
      unfold KindP
      omega

end Go.Proofs.YtmmafhibojipjaaDoor
