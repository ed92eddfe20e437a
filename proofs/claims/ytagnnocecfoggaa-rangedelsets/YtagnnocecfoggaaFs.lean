/-
  Fragments as the form reads them.
-/
import Derived.Test.YtagnnocecfoggaaFr
import Derived.Test.YtagnnocecfoggaaSv
namespace Go.Proofs.Ytagnnocecfoggaa
open Go.RowKit Go.ChangeShapes Go.WideShapes Go.ChangeAt
set_option linter.unusedVariables false
set_option linter.unusedSimpArgs false
theorem cells63 : Try.prog.cellsOf 63 = 3 := by kernel_rfl
theorem cells61 : Try.prog.cellsOf 61 = 1 := by kernel_rfl
abbrev Px := Pc × List Int
def Px.c (x : Px) : List Value := x.1.c
theorem px_k : ∀ t : Px, (Px.c t).length = 3 := fun _ => rfl
abbrev Px.f (x : Px) : Fg := ⟨x.1.b, x.1.e, x.2⟩
def PxOk {H : Type} (W : World) (r : Px) (d : DataW H) : Prop := r.1.n = r.2.length ∧ Rd uc 1 W r.1.a r.2 ∧ (r.2 = [] ∨ ∃ d0 d1 es sp, d = .agg [d0, d1, .slice es sp] ∧ es.length = r.2.length)
theorem seq_open {H : Type} {enc : TypeId × Value → H} {W : World} {base : Nat} {spare : Nat → Bool} {held : Bool} {n : Nat} {cs : List Value} {y : DataW H × List MemPlace} (h : DataW.trod enc Try.prog W base spare held n 38 cs = some y) :
    ∃ t : Int, cs = uc t := by
  obtain ⟨s, e2, _, ws⟩ := DataW.trod_int Try.underlying38 h
  exact ⟨s, e2⟩
theorem frag_open {H : Type} {enc : TypeId × Value → H} {W : World} {held : Bool} {n : Nat} {cs : List Value} {y : DataW H × List MemPlace} (h : DataW.trod enc Try.prog W 0 (fun _ => true) held n 63 cs = some y) :
    ∃ r : Px, cs = Px.c r ∧ PxOk W r y.1 := by
  obtain ⟨y0, y1, y2, m, rfl, hl, h0, h1, h2⟩ := Go.Deep.trod_struct3 Try.underlying63 h
  rw [cells63] at hl
  obtain ⟨c0, c1, c2, rfl⟩ := list3 hl
  simp only [cells9, cells61, List.drop_zero, List.drop_succ_cons, List.take_succ_cons, List.take_zero] at h0 h1 h2
  obtain ⟨b, e0, _, _⟩ := DataW.trod_string Try.underlying9 h0
  obtain ⟨e, e1, _, _⟩ := DataW.trod_string Try.underlying9 h1
  simp at e0 e1
  subst e0 e1
  obtain ⟨a, len, cap, rfl⟩ : ∃ a len cap, c2 = .slice a len cap := by
    rcases Go.Deep.open_slice Try.underlying61 h2 with ⟨h0, _⟩ | ⟨a', len', cap', m, n', D, Pl, hcs, _⟩
    · simp at h0; exact ⟨_, _, _, h0⟩
    · simp at hcs; exact ⟨_, _, _, hcs⟩
  obtain ⟨q, q1, q2, q3, q4⟩ := slice_open uc_k (by decide) Try.underlying61 cells38 (Ok := fun t _ => True) (fun m cs y hy => by obtain ⟨t, ht⟩ := seq_open hy; exact ⟨t, ht, trivial⟩) h2
  subst q1
  refine ⟨(⟨b, e, a, q.length, cap⟩, q), rfl, rfl, q2, ?_⟩
  rcases q4 with rfl | ⟨es, sp, hx, he, _⟩
  · exact .inl rfl
  · exact .inr ⟨y0.1, y1.1, es, sp, by rw [hx], he⟩
theorem rd_map {α β : Type} {ea : α → List Value} {eb : β → List Value} {k : Nat} {f : α → β} (hf : ∀ x, ea x = eb (f x)) {w : World} {a : Option Addr} {l : List α} (h : Rd ea k w a l) : Rd eb k w a (l.map f) := by
  rcases h with rfl | ⟨g, o, rfl, h⟩
  · exact .inl rfl
  · refine .inr ⟨g, o, rfl, fun j x hj => ?_⟩
    rw [List.getElem?_map, Option.map_eq_some_iff] at hj
    obtain ⟨y, hy, rfl⟩ := hj
    have := h j y hy
    intro i v hv
    exact this i v (by rw [hf]; exact hv)
theorem weights_all {H : Type} {P : Program} {e : TypeId} : ∀ {ds : List (DataW H)} {d : DataW H}, d ∈ ds → ∀ n ∈ d.weights P e, n ∈ DataW.weightsAll P e ds
  | x :: ds, d, h, n, hn => by
    rw [DataW.weightsAll]
    rcases List.mem_cons.1 h with rfl | h
    · exact List.mem_append_left _ hn
    · exact List.mem_append_right _ (weights_all h n hn)
theorem weight_list {H : Type} {d0 d1 : DataW H} {es sp : List (DataW H)} : (es.length + sp.length) * 8 ∈ (DataW.agg [d0, d1, .slice es sp] : DataW H).weights Try.prog 63 := by
  have hby : Try.prog.bytesOf 38 = 8 := by kernel_rfl
  rw [DataW.weights, Try.underlying63]
  refine DataW.weights_mem_each (j := 2) (t := 61) (d := .slice es sp) rfl rfl _ ?_
  rw [DataW.weights, Try.underlying61]
  dsimp only
  rw [hby]
  exact List.mem_cons_self ..
theorem frags_open {H : Type} {enc : TypeId × Value → H} {W : World} {held : Bool} {n : Nat} {a : Option Addr} {len cap : Nat} {x : DataW H × List MemPlace} (h : DataW.trod enc Try.prog W 0 (fun _ => true) held n 23 [.slice a len cap] = some x) (hw : ∀ n ∈ x.1.weights Try.prog 23, n ≤ reachBytes) :
    ∃ L : List Fg, L.length = len ∧ RdF W a L ∧ (a = none → cap = 0) ∧ L.length ≤ 140737488355328 ∧ ∀ f ∈ L, f.q.length ≤ 140737488355328 := by
  have hby : Try.prog.bytesOf 63 = 56 := by kernel_rfl
  have hrb : reachBytes = 140737488351232 := rfl
  obtain ⟨l, h1, h2, h3, h4⟩ := slice_open px_k (by decide) Try.underlying23 cells63 (Ok := PxOk W) (fun m cs y hy => frag_open hy) h
  rcases h4 with rfl | ⟨es, sp, hx, he, hh⟩
  · subst h1
    exact ⟨[], rfl, ⟨[], rfl, .inl rfl, fun i p f hp => by simp at hp⟩, h3, by simp, by simp⟩
  · rw [hx] at hw
    have ew : (DataW.slice es sp : DataW H).weights Try.prog 23 = (es.length + sp.length) * 56 :: (DataW.weightsAll Try.prog 63 es ++ DataW.weightsAll Try.prog 63 sp) := by
      rw [DataW.weights, Try.underlying23, ← hby]
    rw [ew] at hw
    have hlen := hw _ (List.Mem.head _)
    rw [hrb] at hlen hw
    have hok : ∀ (i : Nat) (r : Px), l[i]? = some r → r.1.n = r.2.length ∧ Rd uc 1 W r.1.a r.2 ∧ r.2.length ≤ 140737488355328 := fun i r hi => by
      have hil : i < es.length := by have := (List.getElem?_eq_some_iff.1 hi).1; omega
      obtain ⟨a1, a2, a3⟩ := hh i r es[i] hi (List.getElem?_eq_getElem hil)
      refine ⟨a1, a2, ?_⟩
      rcases a3 with e | ⟨d0, d1, es', sp', e1, e2⟩
      · rw [e]; simp
      · have := hw ((es'.length + sp'.length) * 8) (List.mem_cons_of_mem _ (List.mem_append_left _ (weights_all (d := es[i]) (List.getElem_mem hil) _ (by rw [e1]; exact weight_list))))
        omega
    refine ⟨l.map Px.f, by simpa using h1, ⟨l.map (Prod.fst : Px → Pc), by simp, rd_map (ea := Px.c) (eb := Pc.c) (f := (Prod.fst : Px → Pc)) (fun _ => rfl) h2, fun i p f hp hf => ?_⟩, h3, by rw [List.length_map]; omega, fun f hf => ?_⟩
    · rw [List.getElem?_map, Option.map_eq_some_iff] at hp hf
      obtain ⟨r, hr, rfl⟩ := hp
      obtain ⟨r', hr', rfl⟩ := hf
      rw [hr] at hr'
      cases hr'
      obtain ⟨a1, a2, _⟩ := hok i r hr
      exact ⟨rfl, rfl, a1, a2⟩
    · obtain ⟨r, hr, rfl⟩ := List.mem_map.1 hf
      obtain ⟨i, hi, rfl⟩ := List.getElem_of_mem hr
      exact (hok i _ (List.getElem?_eq_getElem hi)).2.2
end Go.Proofs.Ytagnnocecfoggaa
