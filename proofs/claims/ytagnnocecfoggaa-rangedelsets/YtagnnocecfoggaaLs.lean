/-
  RangedelSets: the law's walk.
-/
import Derived.Test.YtagnnocecfoggaaCc
import Derived.Test.YtagnnocecfoggaaCr
import Derived.Test.YtagnnocecfoggaaCv
import Derived.Test.YtagnnocecfoggaaFm
import Derived.Test.YtagnnocecfoggaaNo
import Derived.Test.YtagnnocecfoggaaNy
import Derived.Test.YtagnnocecfoggaaLv
import Derived.Test.YtagnnocecfoggaaSa
import Derived.Test.YtagnnocecfoggaaRs
import Derived.Test.YtagnnocecfoggaaFa
import Derived.Deep.RegionWith
namespace Go.Proofs.Ytagnnocecfoggaa
open Go.RowKit
set_option linter.unusedVariables false
set_option linter.unusedSimpArgs false
theorem New_opt {w : World} {a : Option Addr} {cap : Nat} {l : List Tm} (h : RdT w a l) (how : Int) :
    Calls Try.prog 15 #[.int .i64 how, .slice a l.length cap] w fun e w' => ∃ p, e = .returned (.tuple #[.pointer p, .int .i64 (splE how l)]) ∧ Below w.heap.size w w' ∧ (splE how l ≠ 0 → p = none) ∧ (splE how l = 0 → ∃ S a' c, p = some ⟨S, 0, none⟩ ∧ St w' S how a' c (frs how l)) := by
  refine (New_any h how).mono ?_
  rintro e w' ⟨h1, ⟨h2, rfl⟩ | ⟨h2, S, a', c, _, rfl, hst⟩⟩
  · exact ⟨none, rfl, h1, fun _ => rfl, fun h => absurd h h2⟩
  · exact ⟨some ⟨S, 0, none⟩, by rw [h2], h1, fun h => absurd h2 h, fun _ => ⟨S, a', c, rfl, hst⟩⟩
theorem step_callG {ops : Array Oper} {o : Oper} {a : Act} {w : World} {K : Act → World → Prop} {Q : Exit → Act → World → Prop} {Ex : Prop} (f : FuncId) (xs : List Operand) (ts : Array TypeId) (vs : List Value) {R : Ending → World → Prop} (hc : Calls Try.prog f vs.toArray w R)
    (hw : Region.wanted o (yielded ops a.tmps) = true) {d : Nat} (hd : o.dst = some d)
    (ho : o.op = .call { callee := .value (.func f), args := xs.toArray, argTypes := ts }) (hx : xs.map a.eval = vs) (he : ∀ args w, Sem.run Try.prog (callFunc f args) w = .ok (.enter f args) w)
    (h : ∀ e w', R e w' → ∃ r, e = .returned r ∧ K (a.put (some d) r) w') :
    if Region.wanted o (yielded ops a.tmps) = true then Oper.wp Try.prog o a w K Q else Ex := by
  rw [if_pos hw]
  unfold Oper.wp execOp
  simp only [ho, resolve, invoke, Sem.run_bind, Sem.run_pure, Result.andThen_ok, List.map_toArray, hx, go_sem]
  show Oper.upon Try.prog o a K Q (Sem.run Try.prog (callFunc f (#[] ++ vs.toArray ++ #[])) w)
  rw [show (#[] ++ vs.toArray ++ #[] : Array Value) = vs.toArray by simp, he, Oper.upon_enter]
  refine hc.mono ?_
  intro e w' hR
  obtain ⟨r, rfl, hk⟩ := h e w' hR
  show K (a.put o.dst r) w'
  rw [hd]
  exact hk
theorem en18 (args : Array Value) (w : World) : Sem.run Try.prog (callFunc 18 args) w = .ok (.enter 18 args) w := enters_of (P := Try.prog) Try.func18 (by kernel_rfl) rfl args w
theorem en19 (args : Array Value) (w : World) : Sem.run Try.prog (callFunc 19 args) w = .ok (.enter 19 args) w := enters_of (P := Try.prog) Try.func19 (by kernel_rfl) rfl args w
theorem en20 (args : Array Value) (w : World) : Sem.run Try.prog (callFunc 20 args) w = .ok (.enter 20 args) w := enters_of (P := Try.prog) Try.func20 (by kernel_rfl) rfl args w
theorem en21 (args : Array Value) (w : World) : Sem.run Try.prog (callFunc 21 args) w = .ok (.enter 21 args) w := enters_of (P := Try.prog) Try.func21 (by kernel_rfl) rfl args w
theorem en22 (args : Array Value) (w : World) : Sem.run Try.prog (callFunc 22 args) w = .ok (.enter 22 args) w := enters_of (P := Try.prog) Try.func22 (by kernel_rfl) rfl args w
theorem en23 (args : Array Value) (w : World) : Sem.run Try.prog (callFunc 23 args) w = .ok (.enter 23 args) w := enters_of (P := Try.prog) Try.func23 (by kernel_rfl) rfl args w
/-- The cells of what is asked. -/
theorem Ak.cells {w : World} {g o : Nat} {x : Ak} (h : At Ak.c w g o x) : w.cell? ⟨g, o, none⟩ = some (.string x.b) ∧ w.cell? ⟨g, o + 1, none⟩ = some (.string x.e) ∧ w.cell? ⟨g, o + 2, none⟩ = some (.string x.u) ∧ w.cell? ⟨g, o + 3, none⟩ = some (.int .u64 x.s) ∧ w.cell? ⟨g, o + 4, none⟩ = some (.int .i64 x.kd) ∧ w.cell? ⟨g, o + 5, none⟩ = some (.int .u64 x.lo) ∧ w.cell? ⟨g, o + 6, none⟩ = some (.int .u64 x.n) :=
  ⟨h 0 _ rfl, h 1 _ rfl, h 2 _ rfl, h 3 _ rfl, h 4 _ rfl, h 5 _ rfl, h 6 _ rfl⟩
abbrev cellsA (W : World) (xb : Nat) (x : Ak) : Prop := W.cell? ⟨xb, 0, none⟩ = some (.string x.b) ∧ W.cell? ⟨xb, 1, none⟩ = some (.string x.e) ∧ W.cell? ⟨xb, 2, none⟩ = some (.string x.u) ∧ W.cell? ⟨xb, 3, none⟩ = some (.int .u64 x.s) ∧ W.cell? ⟨xb, 4, none⟩ = some (.int .i64 x.kd) ∧ W.cell? ⟨xb, 5, none⟩ = some (.int .u64 x.lo) ∧ W.cell? ⟨xb, 6, none⟩ = some (.int .u64 x.n)
/-- What the calls of a round answer. -/
structure Rn (w w3 : World) (S : Nat) (how : Int) (aa a3 : Option Addr) (NA M ca c3 NC : Nat) (CT : List Tm) (x : Ak) (MM : Int) (CV WH NB : Bool) (NX : ByteArray) : Prop where
  nx : ∀ W, Below w3.heap.size w3 W → Calls Try.prog 16 #[ptr S, .string x.u] W fun e w' => e = .returned (.tuple #[.string NX, .bool NB]) ∧ Below W.heap.size W w'
  nr : ∀ W, Below w3.heap.size w3 W → Calls Try.prog 17 #[.int .i64 how, .slice a3 M c3, .string x.u] W fun e w' => e = .returned (.tuple #[.string NX, .bool NB]) ∧ Below W.heap.size W w'
  mo : ∀ W, Below w3.heap.size w3 W → Calls Try.prog 18 #[ptr S, .string x.u, .int .u64 x.n] W fun e w' => e = .returned (.int .u64 MM) ∧ Below W.heap.size W w'
  mr : ∀ W, Below w.heap.size w W → Calls Try.prog 19 #[.int .i64 how, .slice aa NA ca, .string x.u, .int .u64 x.n] W fun e w' => e = .returned (.int .u64 MM) ∧ Below W.heap.size W w'
  co : ∀ W, Below w3.heap.size w3 W → Calls Try.prog 20 #[ptr S, .agg #[.string x.u, .int .u64 x.s, .int .i64 x.kd], .int .u64 x.n] W fun e w' => e = .returned (.bool CV) ∧ Below W.heap.size W w'
  cr : ∀ W, Below w.heap.size w W → Calls Try.prog 21 #[.int .i64 how, .slice aa NA ca, .agg #[.string x.u, .int .u64 x.s, .int .i64 x.kd], .int .u64 x.n] W fun e w' => e = .returned (.bool CV) ∧ Below W.heap.size W w'
  wh : ∀ W, Below w3.heap.size w3 W → Calls Try.prog 22 #[ptr S, .string x.b, .string x.e, .int .u64 x.lo, .int .u64 x.n] W fun e w' => e = .returned (.bool WH) ∧ Below W.heap.size W w'
  wr : ∀ W, Below w3.heap.size w3 W → Calls Try.prog 23 #[.int .i64 how, .slice a3 M c3, .string x.b, .string x.e, .int .u64 x.lo, .int .u64 x.n] W fun e w' => e = .returned (.bool WH) ∧ Below W.heap.size W w'
  ct : ∀ W, Below w3.heap.size w3 W → Calls Try.prog 24 #[ptr S, .string x.b, .string x.e] W fun e w' => ∃ v, e = .returned v ∧ RowT w' W.heap.size v CT ∧ Below W.heap.size W w'
  cc : ∀ W, Below w3.heap.size w3 W → Calls Try.prog 25 #[.int .i64 how, .slice a3 M c3, .string x.b, .string x.e] W fun e w' => ∃ a' c', e = .returned (.slice a' NC c') ∧ RdT w' a' CT ∧ Below W.heap.size W w'
  ts : ∀ W a a' c c', RdT W a CT → RdT W a' CT → Calls Try.prog 13 #[.slice a NC c, .slice a' NC c'] W fun e w' => e = .returned (.bool true) ∧ Below W.heap.size W w'
  mc : ∀ W a c, RdT W a CT → Calls Try.prog 19 #[.int .i64 how, .slice a NC c, .string x.u, .int .u64 x.n] W fun e w' => e = .returned (.int .u64 (if kle how x.b x.u = true ∧ kl how x.u x.e = true then MM else 0)) ∧ Below W.heap.size W w'
  len : CT.length = NC
  le : NC ≤ 10000000
theorem rn_of {w w3 : World} {S : Nat} {how : Int} {aa a3 a' : Option Addr} {ca c3 c' : Nat} {la : List Tm} (h0 : splE how la = 0) (ha : RdT w aa la) (hla : la.length * 40 ≤ 140737488355328) (hsa : ∀ t ∈ la, 0 ≤ t.s) (hS : St w3 S how a' c' (frs how la)) (hF : RdF w3 a3 (frs how la)) (x : Ak) (hx : 0 ≤ x.s ∧ 0 ≤ x.lo ∧ 0 ≤ x.n) :
    ∃ NC CT MM CV WH NB NX, Rn w w3 S how aa a3 la.length (frs how la).length ca c3 NC CT x MM CV WH NB NX := by
  have hlen := (splE_len h0).1
  have hg : FrG how (frs how la) := frs_g hlen
  have hle : (frs how la).length ≤ 2048 ∧ ∀ f ∈ frs how la, f.q.length ≤ 1024 := by
    refine ⟨by have := frs_len how la; omega, fun f hf => by have := frs_q how la f hf; omega⟩
  have hFr := frs_frs how la
  have hmr : mostF how (frs how la) x.u x.n = refMost how la x.u x.n := mostF_ref hFr hsa x.u x.n
  have hnn : ∀ f ∈ frs how la, ∀ y ∈ f.q, 0 ≤ y := fun f hf y hy => by
    rw [hFr.at_ f hf f.b (kle_rf _) (hFr.be f hf)] at hy
    obtain ⟨u, hu, _, e⟩ := ((seqsAt_facts how la f.b).2 _).1 hy
    rw [e]; exact hsa u hu
  have hwe : wholeF how x.e x.lo x.n ((frs how la).drop (rch how (frs how la) x.b)) x.b = rwholeF how x.e x.lo x.n (frs how la) x.b := whole_eq hx.2.1 hg.o hg.fall hnn
  have hcv : la.any (cvB how x.u x.s x.n) = decide (x.s < refMost how la x.u x.n) := cover_most hsa x.u hx.1 x.n
  have hctl : ∀ k, (cutT how x.b x.e ((frs how la).take k)).length ≤ 2097152 := fun k => by
    unfold cutT
    rw [jnT_len]
    refine Nat.le_trans (cntQ_le (B := 1024) ?_) ?_
    · intro f hf
      obtain ⟨hf, _⟩ := List.mem_filter.1 hf
      obtain ⟨g, hg', rfl⟩ := List.mem_map.1 hf
      exact hle.2 g (List.take_subset _ _ hg')
    · have h1 := List.length_filter_le (onF how) (((frs how la).take k).map (cutF how x.b x.e))
      rw [List.length_map, List.length_take] at h1
      omega
  have hct : (cutT how x.b x.e (frs how la)).length ≤ 2097152 := by
    have := hctl (frs how la).length
    rwa [List.take_length] at this
  refine ⟨(cutT how x.b x.e (frs how la)).length, cutT how x.b x.e (frs how la), refMost how la x.u x.n, decide (x.s < refMost how la x.u x.n), rwholeF how x.e x.lo x.n (frs how la) x.b, (nextF how x.u (frs how la)).2, (nextF how x.u (frs how la)).1, ?_⟩
  refine ⟨fun W hb => Next_any (hS.below hb) hg x.u, fun W hb => rNext_any (hF.below hb) how x.u hg.len, fun W hb => ?_, fun W hb => rMost_any (ha.below hb) how x.u x.n (by omega), fun W hb => ?_, fun W hb => ?_, fun W hb => ?_, fun W hb => ?_, fun W hb => Cut_any (hS.below hb) hg x.b x.e hle.1 hle.2, fun W hb => ?_, fun W a a' c c' h1 h2 => tombs_same h1 h2 (by omega), fun W a c h1 => ?_, rfl, by omega⟩
  · have := Most_any (hS.below hb) hg x.u x.n
    rw [hmr] at this; exact this
  · have := Covers_any (hS.below hb) hg x.u x.s x.kd x.n
    rw [hmr] at this; exact this
  · have := rCovers_any (cap := ca) (ha.below hb) how x.u x.s x.kd x.n (by omega)
    rw [hcv] at this; exact this
  · have := Whole_any (hS.below hb) hg x.b x.e x.lo x.n
    rw [hwe] at this; exact this
  · refine (rWhole_any (c := c3) (hF.below hb) how x.b x.e x.lo x.n hg.len hg.qlen).mono ?_
    rintro e w' ⟨rfl, rfl⟩
    exact ⟨rfl, Below.refl _ _⟩
  · exact rCut_any (c := c3) (hF.below hb) how x.b x.e hg.len hg.qlen (fun k => by have := hctl k; omega)
  · have := rMost_any (cap := c) h1 how x.u x.n (by omega)
    rw [cut_most hsa] at this
    exact this
end Go.Proofs.Ytagnnocecfoggaa
