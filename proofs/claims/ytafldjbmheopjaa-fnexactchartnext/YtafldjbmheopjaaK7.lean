/- Adding to a work list. -/
import Derived.Test.YtafldjbmheopjaaK6
namespace Go.Proofs.Ytafldjbmheopjaa
open Go.RowKit
set_option linter.unusedVariables false

theorem Fr.grow {wl wb : Nat} {qv v' : Value} {w w' : World} (hg : w.grownBy w' qv.ownBlock) (hat : v'.ownBlock = qv.ownBlock ∨ ∃ k, v'.ownBlock = some k ∧ w.heap.size ≤ k) : Fr (WF wl wb qv) (WF wl wb v') w w' := by
  refine ⟨hg.os, hg.tape, hg.output, hg.size, fun k hk hF => hg.block k hk (fun e => hF (.inr (.inr e.symm))), fun k hk hF => ?_⟩
  rcases hF with h | h | h
  · exact .inl h
  · exact .inr (.inl h)
  · rcases hat with e | ⟨k', e, hk'⟩
    · exact .inr (.inr (by rw [← e]; exact h))
    · rw [e] at h
      injection h with h
      omega

def nats (q : List Nat) : List Value := q.map (fun j => .int .i64 (j : Nat))
theorem nats_eq (q : List Nat) : nats q = ints (q.map Int.ofNat) := by simp [nats, ints]
theorem Row.nat {w : World} {A : Option Addr} {q : List Nat} (h : Row w A (nats q)) {k : Nat} (hk : k < q.length) : ∃ b off, A = some ⟨b, off, none⟩ ∧ w.cell? ⟨b, off + k, none⟩ = some (.int .i64 (q[k] : Nat)) := by
  obtain ⟨b, off, ha, hc⟩ := h.at_ (k := k) (by simpa [nats] using hk)
  exact ⟨b, off, ha, by rw [hc]; simp [nats]⟩

/-- What adding leaves. -/
def AddPost (base wl wb m : Nat) (qv : Value) (q idx : List Nat) (w : World) (e : Ending) (w' : World) : Prop :=
  e = .returned (.tuple #[]) ∧ ∃ qv' q' ws', WL base wl wb m qv' q' ws' w' ∧ WOK m q' ws' ∧ (∀ j ∈ q, j ∈ q') ∧ (∀ j ∈ idx, j ∈ q') ∧ Fr (WF wl wb qv) (WF wl wb qv') w w'

set_option maxRecDepth 100000 in
set_option maxHeartbeats 2000000 in
theorem add_any (base wl wb m : Nat) (qv : Value) (q idx : List Nat) (ws : List Bool) (A : Option Addr) (c : Nat) (w : World) (h : WL base wl wb m qv q ws w) (hok : WOK m q ws) (hm : m ≤ 400)
    (hi : Row w A (nats idx)) (hA : ∀ p, A = some p → ¬ WF wl wb qv p.block) (hidx : ∀ j ∈ idx, j < m) (hl : idx.length ≤ 1048576) (hbase : base ≤ w.heap.size) :
    Calls Try.prog 91 #[.pointer (some ⟨wl, 0, none⟩), .slice A idx.length c] w (AddPost base wl wb m qv q idx w) := by
  obtain ⟨i0, hi0, hz0, hz1, hz2⟩ := info_parts info3
  have HI := Lib.hid (And.intro hi0 (And.intro hz0 (And.intro hz1 hz2)))
  clear hi0 hz0 hz1 hz2
  have HR := Lib.hid hi
  have HA := Lib.hid hA
  have HX := Lib.hid hidx
  clear hi hA hidx
  go_enter Try.func91, Try.ntmps91
  go_wp2
  go_loopw [8] (fun i wr => ∃ k : Nat, k ≤ idx.length ∧ i = .int .i64 k ∧ ∃ qv' q' ws', WL base wl wb m qv' q' ws' wr ∧ Hid (WOK m q' ws') ∧ Hid (∀ j ∈ q, j ∈ q') ∧ Hid (∀ i (h : i < idx.length), i < k → idx[i] ∈ q') ∧ Fr (WF wl wb qv) (WF wl wb qv') w wr) (fun i _ => idx.length - (intOf i).toNat)
  case atStart => exact ⟨0, Nat.zero_le _, rfl, qv, q, ws, h, hok, fun j hj => hj, fun i _ hi => by omega, Fr.refl _ _⟩
  case round =>
    clear h hok
    obtain ⟨k, hk, rfl, qv', q', ws', h, HOK, HQ, HI2, hf⟩ := hrel
    have hsz := hf.size
    by_cases hlt : k < idx.length
    · have hlt' : (k : Int) < (idx.length : Int) := by omega
      obtain ⟨b, off, rfl, hc⟩ := (hf.row HR.out HA.out).nat hlt
      have hjm := HX.out _ (List.getElem_mem hlt)
      have HE : Hid (∀ Q : List Nat, (∀ i (h : i < idx.length), i < k → idx[i] ∈ Q) → idx[k] ∈ Q → ∀ i (h : i < idx.length), i < k + 1 → idx[i] ∈ Q) := fun Q h1 h2 i hi hik => by
        rcases Nat.lt_succ_iff_lt_or_eq.1 hik with h3 | h3
        · exact h1 i hi h3
        · subst h3; exact h2
      generalize idx[k] = j at *
      have hwl := HOK.out.l
      have hjw : j < ws'.length := by omega
      have hql := HOK.out.len
      have x1 : wr.cell? ⟨wl, 1, none⟩ = some (.slice (some ⟨wb, 0, none⟩) m m) := by rw [h.box.cell]; rfl
      have z0 : wr.cell? ⟨wb, j, none⟩ = some (.bool ws'[j]) := by rw [h.wt.cell]; simp [hjw]
      have HFL := Lib.hid (HOK.out.fl j hjw)
      have f1 := h.wt.frozen j
      have hjm' : (j : Int) < (m : Int) := by omega
      have lt1 := h.box.lt
      have lt2 := h.wt.lt
      have n1 := h.n1
      cases hfl : ws'[j]
      · rw [hfl] at z0
        have hnq : j ∉ q' := fun hj => by have := HFL.out.2 hj; rw [hfl] at this; cases this
        have HOK2 := Lib.hid (HOK.out.add (by omega) hnq)
        have h1 := h.flag j true
        have hf1 : Fr (WF wl wb qv) (WF wl wb qv') w (wr.setCell ⟨wb, j, none⟩ (.bool true)) := hf.setCell (p := ⟨wb, j, none⟩) (.inr (.inl rfl)) _
        have h2 := h1.keep (below_box (.cells #[.int .i64 (j : Nat)] 3))
        have hf2 := hf1.trans (Fr.of_below (WF wl wb qv') (below_box (.cells #[.int .i64 (j : Nat)] 3)))
        obtain ⟨QA, qc, rfl⟩ := h.qr.shape
        have x0 : wr.cell? ⟨wl, 0, none⟩ = some (.slice QA q'.length qc) := by rw [h.box.cell]; rfl
        have f0 := h.box.frozen 0
        have HH2 := Lib.hid h2
        have HF2 := Lib.hid hf2
        clear hfl hwl hnq h h1 hf hf1 h2 hf2 HFL HOK
        go_wp2_with (at_builtin; refine wpList_append_q rfl _ _ rfl i0 Try.underlying81 HI.out.1 HI.out.2.1 HI.out.2.2.1 HI.out.2.2.2 base _ q' rfl HH2.out.qr ⟨wr.heap.size, 0, none⟩ j rfl ?c2 (by omega) ?c3 ?_)
        case c2 => have := cell_one_new (wr.setCell ⟨wb, j, none⟩ (.bool true)) (.int .i64 (j : Nat)) 3; simpa using this
        case c3 => simp; omega
        · intro v' w3 hq3 hg3 hat3
          have H3 := HH2.out.swap hg3 hq3
          have F3 := (HF2.out.trans (Fr.grow hg3 (hat3.imp id (fun ⟨k, e, hk⟩ => ⟨k, e, by simpa using hk⟩)))).setCell (p := ⟨wl, 0, none⟩) (.inl rfl) v'
          have HE2 := Lib.hid (HE.out (q' ++ [j]) (fun i hi hik => List.mem_append_left _ (HI2.out i hi hik)) (List.mem_append_right _ (List.mem_singleton.2 rfl)))
          have HQ2 : Hid (∀ j' ∈ q, j' ∈ q' ++ [j]) := fun j' hj' => List.mem_append_left _ (HQ.out j' hj')
          obtain ⟨A3, c3, hv3⟩ := hq3.shape
          subst hv3
          have o1 : Own w3 wl 136 [.slice QA q'.length qc, .slice (some ⟨wb, 0, none⟩) m m] := (hg3.block wl HH2.out.box.lt (fun e => HH2.out.n2 e.symm)).trans HH2.out.box
          have y0 : w3.cell? ⟨wl, 0, none⟩ = some (.slice QA q'.length qc) := by rw [o1.cell]; rfl
          have g0 := o1.frozen 0
          have lt4 := o1.lt
          simp only [List.length_append, List.length_cons, List.length_nil, Nat.zero_add] at H3 F3
          have HH3 := Lib.hid H3
          have HF3 := Lib.hid F3
          clear HH2 HF2 hg3 hq3 hat3 H3 F3 o1 HE HI2 HQ x0 f0 z0 f1 x1 hc
          go_wp2
          go_roundw
          case rel => exact ⟨k + 1, by omega, by go_num, _, q' ++ [j], _, HH3.out, HOK2, HQ2, HE2, HF3.out⟩
          case measure => simp [intOf]; omega
      · rw [hfl] at z0
        have hin : j ∈ q' := HFL.out.1 hfl
        have HE2 := Lib.hid (HE.out q' HI2.out hin)
        clear hfl hwl HE HI2 HFL
        go_wp2
        go_roundw
        case rel => exact ⟨k + 1, by omega, by go_num, qv', q', ws', h, HOK, HQ, HE2, hf⟩
        case measure => simp [intOf]; omega
    · have hlt' : ¬ (k : Int) < (idx.length : Int) := by omega
      go_wp2
      go_end0
      refine ⟨rfl, qv', q', ws', h, HOK, HQ, fun j hj => ?_, hf⟩
      obtain ⟨i, hi, rfl⟩ := List.getElem_of_mem hj
      exact HI2 i hi (by omega)

end Go.Proofs.Ytafldjbmheopjaa
