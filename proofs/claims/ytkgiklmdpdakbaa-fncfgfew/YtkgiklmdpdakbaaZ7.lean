/- The specification's maker of productions, plainly: what is behind some of the kids, and the room for the next one. -/
import Derived.Test.YtkgiklmdpdakbaaZ6
namespace Go.Proofs.Ytkgiklmdpdakbaa
open Go.RowKit
set_option linter.unusedVariables false

theorem seqB_take (L : Lv) (kids : List Pt) (s : Mk) (j : Nat) (h : j < kids.length) : seqB L (kids.take (j + 1)) s = seqStep L (seqB L (kids.take j) s) kids[j] := by
  unfold seqB
  rw [List.take_succ_eq_append_getElem h, List.foldl_append]
  rfl
theorem altB_take (L : Lv) (h : Nat) (kids : List Pt) (s : Mk) (j : Nat) (hj : j < kids.length) : altB L h (kids.take (j + 1)) s = altStep L h (altB L h (kids.take j) s) kids[j] := by
  unfold altB
  rw [List.take_succ_eq_append_getElem hj, List.foldl_append]
  rfl
theorem nodesL_room (kids : List Pt) (j : Nat) (h : j < kids.length) : nodesL (kids.take j) + kids[j].nodes ≤ nodesL kids := by
  rw [← nodesL_take h]
  exact nodesL_le kids (j + 1)
theorem HRoom.seq {rs : List Ru} {n : Nat} {L : Lv} (hL : LvOk rs n L) {kids : List Pt} {s : Mk} (hr : HRoom s (nodesL kids + 1)) (hk : ∀ p ∈ kids, p.ht ≤ n ∧ OkP rs p) {j : Nat} (hj : j < kids.length) :
    Room (seqB L (kids.take j) s).2 kids[j].nodes ∧ (seqB L (kids.take j) s).1.length ≤ 3200 := by
  obtain ⟨⟨a1, a2, a3, a4⟩, a5⟩ := seqB_few hL (kids.take j) ([], s) fun p hp => hk p (List.mem_of_mem_take hp)
  have h1 := nodesL_room kids j hj
  obtain ⟨b1, b2, b3⟩ := hr
  simp only [List.length_nil] at a1 a2 a3 a4 a5
  refine ⟨⟨?_, ?_, by omega⟩, ?_⟩
  · show ((kids.take j).foldl (seqStep L) ([], s)).2.heads + _ ≤ _
    omega
  · show ((kids.take j).foldl (seqStep L) ([], s)).2.list.length + _ ≤ _
    omega
  · show ((kids.take j).foldl (seqStep L) ([], s)).1.length ≤ _
    omega
theorem HRoom.alt {rs : List Ru} {n : Nat} {L : Lv} (hL : LvOk rs n L) {kids : List Pt} {s : Mk} {h : Nat} (hr : HRoom s (nodesL kids + 1)) (hk : ∀ p ∈ kids, p.ht ≤ n ∧ OkP rs p) {j : Nat} (hj : j < kids.length) :
    Room (altB L h (kids.take j) s) kids[j].nodes := by
  obtain ⟨a1, a2, a3, a4⟩ := altB_few hL h (kids.take j) s fun p hp => hk p (List.mem_of_mem_take hp)
  have h1 := nodesL_room kids j hj
  obtain ⟨b1, b2, b3⟩ := hr
  exact ⟨by omega, by omega, by omega⟩
theorem Room.len {s : Mk} {n : Nat} (h : Room s n) : s.heads ≤ 500000 ∧ s.list.length ≤ 500000 := by
  obtain ⟨b1, b2, b3⟩ := h
  omega

/-- A row of symbols of the call's own grows. -/
theorem MkP.grow {w0 W w2 w4 : World} {mb cap' n : Nat} {rv v : Value} {s' : Mk} {A' : Option Addr} {xs zs : List Pv} {cs : List Value} (h : MkP w0 mb rv xs W s' A' cap' zs w2) (hr : w2.ownsRow W.heap.size 49 3 v n cs)
    (hap : ∀ z ∈ zs, ∀ b, z.sl.ownBlock = some b → v.ownBlock ≠ some b) (hx : ∀ x ∈ xs, ∀ b, x.sl.ownBlock = some b → b < W.heap.size) (hW : w0.heap.size ≤ W.heap.size) (hg : w2.grownBy w4 v.ownBlock) : MkP w0 mb rv xs W s' A' cap' zs w4 := by
  obtain ⟨⟨o, ⟨go, gd, gap⟩, p, b, ge⟩, f, nn⟩ := h
  have stay : ∀ {k : Nat} {t : TypeId} {cur : Array Value}, w2.heap[k]? = some (.cells cur t (0, 0)) → t ≠ 49 → w4.heap[k]? = w2.heap[k]? := fun hk ht => hg.block _ (Array.getElem?_eq_some_iff.1 hk).1 (fun e => by
    obtain ⟨cur', hc⟩ := kind_of hr e.symm
    rw [hk] at hc
    injection hc with hc
    injection hc with _ hc
    exact ht hc)
  have o2 : w2.heap[mb]? = some (.cells _ 84 (0, 0)) := o
  refine ⟨⟨(stay o2 (by decide)).trans o, ⟨row_of go (fun b cur _ hc _ => stay hc (by decide)), fun i hi => row_of (gd i hi) (fun b cur hb hc _ => hg.block b (Array.getElem?_eq_some_iff.1 hc).1 (fun e => ?_)), gap⟩, p, b.grown hg b.size (fun k hk => by have := (hr.lt k hk).1; omega), ge⟩, ⟨hg.os.trans f.os, hg.tape.trans f.tape, hg.output.trans f.output, Nat.le_trans f.size hg.size, fun k hk h1 h2 => ?_⟩, nn⟩
  · rcases List.mem_append.1 (List.getElem_mem hi) with hm | hm
    · have := hx _ hm b hb
      have := (hr.lt b e.symm).1
      omega
    · exact hap _ hm b hb e.symm
  · exact (hg.block k (Nat.lt_of_lt_of_le hk f.size) (fun e => by have := (hr.lt k e.symm).1; omega)).trans (f.block k hk h1 h2)
theorem apart_grow {w2 : World} {v v' : Value} {zs : List Pv} (hap : ∀ z ∈ zs, ∀ b, z.sl.ownBlock = some b → v.ownBlock ≠ some b) (hlt : ∀ z ∈ zs, ∀ b, z.sl.ownBlock = some b → b < w2.heap.size) (hblk : v'.ownBlock = v.ownBlock ∨ v'.ownBlock = some w2.heap.size) :
    ∀ z ∈ zs, ∀ b, z.sl.ownBlock = some b → v'.ownBlock ≠ some b := by
  intro z hz b hb e
  rcases hblk with h | h
  · exact hap z hz b hb (h ▸ e)
  · rw [h] at e
    injection e with e
    have := hlt z hz b hb
    omega
theorem MK.low {w0 w : World} {mb cap : Nat} {rv : Value} {s : Mk} {A : Option Addr} {xs : List Pv} (h : MK w0 mb rv s A cap xs w) : ∀ x ∈ xs, ∀ b, x.sl.ownBlock = some b → b < w.heap.size := by
  intro x hx b hb
  obtain ⟨i, hi, rfl⟩ := List.getElem_of_mem hx
  exact ((h.g.d i hi).lt b hb).2

/-- What is asked of a level: a part as one symbol. -/
def OneIH (w0 : World) (mb : Nat) (rs : List Ru) (rv : Value) (n : Nat) (L : Lv) : Prop :=
  ∀ (k : Int) (t : ByteArray) (lo hi : List Int) (kids : List Pt) (mn mx : Int) (A B K : Option Addr) (ca cb kc : Nat) (s : Mk) (Al : Option Addr) (cap : Nat) (xs : List Pv) (w : World), Ask w0 rs n k t lo hi kids mn mx A B K → Room s (Pt.mk k t lo hi kids mn mx).nodes → MK w0 mb rv s Al cap xs w →
    Calls Try.prog 82 #[.pointer (some ⟨mb, 0, none⟩), .agg #[.int .i64 k, .string t, .slice A lo.length ca, .slice B hi.length cb, .slice K kids.length kc, .int .i64 mn, .int .i64 mx]] w (OnePost w0 mb rv xs (L.one (.mk k t lo hi kids mn mx) s) w)
/-- What is asked of a level: a part as several symbols. -/
def BodyIH (w0 : World) (mb : Nat) (rs : List Ru) (rv : Value) (n : Nat) (L : Lv) : Prop :=
  ∀ (k : Int) (t : ByteArray) (lo hi : List Int) (kids : List Pt) (mn mx : Int) (A B K : Option Addr) (ca cb kc : Nat) (s : Mk) (Al : Option Addr) (cap : Nat) (xs : List Pv) (w : World), Ask w0 rs n k t lo hi kids mn mx A B K → Room s (Pt.mk k t lo hi kids mn mx).nodes → MK w0 mb rv s Al cap xs w →
    Calls Try.prog 70 #[.pointer (some ⟨mb, 0, none⟩), .agg #[.int .i64 k, .string t, .slice A lo.length ca, .slice B hi.length cb, .slice K kids.length kc, .int .i64 mn, .int .i64 mx]] w (BodyPost w0 mb rv xs (L.body (.mk k t lo hi kids mn mx) s) w)

/-- A kid, as it is asked. -/
theorem Ask.kid {w0 : World} {rs : List Ru} {n : Nat} {k : Int} {t : ByteArray} {lo hi : List Int} {kids : List Pt} {mn mx : Int} {A B K : Option Addr} (h : Ask w0 rs (n + 1) k t lo hi kids mn mx A B K) {j : Nat} (hj : j < kids.length) :
    ∃ b off, K = some ⟨b, off, none⟩ ∧ ∃ (qk : Int) (qt : ByteArray) (ql qh : List Int) (qkids : List Pt) (qn qx : Int) (QA QB QK : Option Addr) (qa qb qc : Nat), kids[j] = .mk qk qt ql qh qkids qn qx ∧ PtCells w0 b (off + j * 7) qk qt ql qh qkids qn qx QA QB QK qa qb qc ∧ Ask w0 rs n qk qt ql qh qkids qn qx QA QB QK := by
  have h3 := h.ok
  have h4 := h.lim
  cases h3 with
  | mk _ _ _ _ _ _ _ _ hok =>
  cases h4 with
  | mk _ _ _ _ _ _ _ _ _ _ _ hlim =>
  obtain ⟨b, off, rfl, hp⟩ := h.v.k.at_ hj
  have hm := List.getElem_mem hj
  have g1 := hok _ hm
  have g2 := hlim _ hm
  have g3 := ht_mem hm
  have hht := h.ht
  generalize kids[j] = q at *
  obtain ⟨qk, qt, ql, qh, qkids, qn, qx⟩ := q
  obtain ⟨QA, QB, QK, qa, qb, qc, hc, hv⟩ := hp.open_
  rw [ht_mk] at g3
  exact ⟨b, off, rfl, qk, qt, ql, qh, qkids, qn, qx, QA, QB, QK, qa, qb, qc, rfl, hc, g1, by omega, hv, g2⟩
theorem Ask.kids {w0 : World} {rs : List Ru} {n : Nat} {k : Int} {t : ByteArray} {lo hi : List Int} {kids : List Pt} {mn mx : Int} {A B K : Option Addr} (h : Ask w0 rs (n + 1) k t lo hi kids mn mx A B K) : ∀ p ∈ kids, p.ht ≤ n ∧ OkP rs p := by
  have h3 := h.ok
  cases h3 with
  | mk _ _ _ _ _ _ _ _ hok =>
  intro p hp
  have := ht_mem hp
  have := h.ht
  exact ⟨by omega, hok p hp⟩

end Go.Proofs.Ytkgiklmdpdakbaa

