/-
  Layer 13: what the laws' cards share: the five listed tables as they are laid, a world that holds them, and what the walks read of them.
-/
import Derived.Test.YtmfhdcpajgjgpaaGreatDoorPd8
import Derived.Test.YtmfhdcpajgjgpaaGreatDoorPd3
import Derived.Test.YtmfhdcpajgjgpaaGreatDoorCards
import Derived.Test.YtmfhdcpajgjgpaaGreatDoorTie
import Derived.Lib.LaidIn
import Derived.Lib.LaidTab
import Derived.Lib.LaidU8T
import Derived.Deep.DeepHandedRow
import Derived.Deep.DeepWitnessRowRef
import Derived.SevenTiedAt
import Derived.ProofKit
import Derived.SizedLaws
namespace Go.Proofs.YtmfhdcpajgjgpaaGreatDoor.Syn
open Go.Shelf Go.RowKit Go.Lib
set_option linter.unusedVariables false
set_option maxRecDepth 100000
def vJ {H:Type}(l:List ByteArray):DataW H:=.agg (l.map fun s=>.lit (.string s.data.toList))
theorem vd {H:Type}{enc:TypeId × Value->H}{P:Program}{w:World}{base:Nat}{sp:Nat->Bool}{held:Bool}{fuel:Nat}{t e:TypeId}{n:Nat}{cs:List Value}{l:List ByteArray}{p:List MemPlace}
  (ht:P.underlying t=some (.array n e)) (he:P.underlying e=some .string) (hce:P.cellsOf e=1) (hct:P.cellsOf t=n)
  (h:DataW.trod enc P w base sp held fuel t cs=some (vJ l,p)):cs=l.map Value.string:=by
 cases fuel with
 | zero=>simp [DataW.trod] at h
 | succ fuel =>
  simp only [DataW.trod,ht,hce,hct,Nat.mul_one] at h
  split at h
  ·rename_i hl
   obtain ⟨xs,hm,hx⟩:=Option.map_eq_some_iff.1 h
   have hxs:xs.map (·.1)=l.map fun s=>(DataW.lit (.string s.data.toList):DataW H):=by
    have:=congrArg Prod.fst hx
    simpa [vJ] using this
   have hxl:xs.length=n:=by simpa using mapM_length hm
   have hzl:l.length=n:=by
    have:=congrArg List.length hxs
    simp at this
    omega
   apply List.ext_getElem?
   intro i
   by_cases hi:i<n
   ·obtain ⟨b,hb,hf⟩:=mapM_at hm i i (by simp [hi])
    obtain ⟨s,hc,rfl,_⟩:=DataW.trod_string he hf
    have h1:cs[i]?=some (.string s):=by
     have:=congrArg (·[0]?) hc
     simpa [List.getElem?_take,List.getElem?_drop] using this
    have h2:(xs.map (·.1))[i]?=some (DataW.lit (.string s.data.toList):DataW H):=by simp [hb]
    rw [hxs] at h2
    simp only [List.getElem?_map,Option.map_eq_some_iff,DataW.lit.injEq,Lit.string.injEq] at h2
    obtain ⟨z',hz',e⟩:=h2
    have e2:z'=s:=by
     obtain ⟨⟨x⟩⟩:=z'
     obtain ⟨⟨y⟩⟩:=s
     simp at e
     rw [e]
    subst e2
    simp [h1,hz']
   ·rw [List.getElem?_eq_none (by omega),List.getElem?_eq_none (by simp;omega)]
  ·cases h
def Tabs10 (w:World):Prop:=Tab w/\Tok.TZ w/\5<w.heap.size
theorem Tabs10.below {w w':World}(h:Tabs10 w) (hb:Below w.heap.size w w'):Tabs10 w':=⟨h.1.below hb,Tok.TZ.below h.2.1 hb,Nat.lt_of_lt_of_le h.2.2 hb.size⟩
def dbTab:List Int:=[0,1,56,2,57,49,28,3,61,58,42,50,38,29,17,4,62,47,59,36,45,43,51,22,53,39,33,30,24,18,12,5,63,55,48,27,60,41,37,16,46,35,44,21,52,32,23,11,54,26,40,15,34,20,31,10,25,14,19,9,13,8,7,6]
theorem db_eq:(Rows.laid_math_bits_deBruijn64tab:DataW Unit)=Lib.tabData .u8 dbTab:=by kernel_rfl
theorem pn_eq:(Rows.laid_arraylang_syntax_primNames:DataW Unit)=vJ primT:=by kernel_rfl
theorem on_eq:(Rows.laid_arraylang_syntax_opNames:DataW Unit)=vJ opT:=by kernel_rfl
theorem tz_of {w : World} (h : VarReads Tryz.prog w "math/bits.deBruijn64tab" (Lib.tabData .u8 dbTab)) : Tok.TZ w := by
 obtain ⟨g,t,cs,fuel,p,hg,hty,hvar,hd⟩:=h
 obtain rfl := Option.some.inj ((show Tryz.prog.globalNamed "math/bits.deBruijn64tab" = some 5 by kernel_rfl).symm.trans hg)
 obtain rfl:=Option.some.inj ((show (Tryz.prog.globals[5]?).map (·.type)=some 195 by kernel_rfl).symm.trans hty)
 have hcs:=cells_of_tab Tryz.underlying195 Tryz.underlying5 (by kernel_rfl) (by kernel_rfl) hd
 have:=World.var?_cell hg hvar 15
 rw [Tok.TZ,this]
 have e:cs[15]? =(dbTab.map fun z=>Value.int .u8 z)[15]?:=by rw [<- hcs,Array.getElem?_toList]
 rw [e]
 rfl
theorem strs_at {w:World}{cs:Array Value}{l:List ByteArray}{g n:Nat}{name:String}(hg:Tryz.prog.globalNamed name=some g) (hvar:w.var? Tryz.prog name=some cs) (hcs:cs.toList=l.map Value.string) (hn:l.length=n) :
  ∀ j,j<n->w.cell? ⟨g,j,none⟩=some (.string (l.getD j ⟨#[]⟩)):=by
 intro j hj
 have:=World.var?_cell hg hvar j
 rw [this]
 have e:cs[j]? =(l.map Value.string)[j]?:=by rw [<- hcs,Array.getElem?_toList]
 rw [e,List.getElem?_map,List.getElem?_eq_getElem (by omega),List.getD_eq_getElem?_getD,List.getElem?_eq_getElem (by omega)]
 rfl
theorem prims_of {w : World} (h : VarReads Tryz.prog w "arraylang/syntax.primNames" (vJ primT)) : ∀ j, j < 56 → w.cell? ⟨0, j, none⟩ = some (.string (primT.getD j ⟨#[]⟩)) := by
 obtain ⟨g,t,cs,fuel,p,hg,hty,hvar,hd⟩:=h
 obtain rfl := Option.some.inj ((show Tryz.prog.globalNamed "arraylang/syntax.primNames" = some 0 by kernel_rfl).symm.trans hg)
 obtain rfl:=Option.some.inj ((show (Tryz.prog.globals[0]?).map (·.type)=some 128 by kernel_rfl).symm.trans hty)
 exact strs_at hg hvar (vd arrPT Tryz.underlying9 (by kernel_rfl) (by kernel_rfl) hd) rfl
theorem ops_of {w : World} (h : VarReads Tryz.prog w "arraylang/syntax.opNames" (vJ opT)) : ∀ j, j < 12 → w.cell? ⟨1, j, none⟩ = some (.string (opT.getD j ⟨#[]⟩)) := by
 obtain ⟨g,t,cs,fuel,p,hg,hty,hvar,hd⟩:=h
 obtain rfl := Option.some.inj ((show Tryz.prog.globalNamed "arraylang/syntax.opNames" = some 1 by kernel_rfl).symm.trans hg)
 obtain rfl:=Option.some.inj ((show (Tryz.prog.globals[1]?).map (·.type)=some 129 by kernel_rfl).symm.trans hty)
 exact strs_at hg hvar (vd arrOT Tryz.underlying9 (by kernel_rfl) (by kernel_rfl) hd) rfl
noncomputable def laidWorld (os:Os):World :=
 let w0:=World.holding Tryz.prog os ⟨#[],#[],[]⟩
 let put (h:Array Obj) (g:Nat) (cs:Array Value):Array Obj:=h.modify g fun
  | .cells _ t frozen=>.cells cs t frozen
  | o=>o
 let h4:=put w0.heap 3 (((List.range 20).map fun i=>Value.int .u64 ((10 ^ i:Nat):Int))).toArray
 let h5:=put h4 4 (([0,1,28,2,29,14,24,3,30,22,20,15,25,17,4,8,31,27,13,23,21,19,16,7,26,12,18,6,11,5,10,9]:List Int).map fun z=>Value.int .u8 z).toArray
 let h6:=put h5 5 (dbTab.map fun z=>Value.int .u8 z).toArray
 let h7:=put h6 0 (primT.map Value.string).toArray
 let h8:=put h7 1 (opT.map Value.string).toArray
 { w0 with heap:=h8 }
theorem laid_met (os:Os) (args:Array Value):laidMet Tryz.prog Rows.printerPrintRow.laid ((laidWorld os).forCall (fun _ _=>0) ⟨#[],args,[]⟩).memory :=
 (LaidIn.of_run (l:=Rows.printerPrintRow.laid) [4,5,3,0,1] 8 (by kernel_rfl) (by kernel_rfl) (by kernel_rfl) (by kernel_rfl)).met
theorem tabs_of {W:World}(hL:laidMetH Tryz.prog Rows.printerPrintRow.laid W):Tabs10 W:=by
 have h5:=Lib.laidMet.reads (d:=(Rows.laid_math_bits_deBruijn64tab:DataW Unit)) hL (.tail _ (.head _))
 have h6:=Lib.laidMet.reads (d:=(Rows.laid_arraylang_syntax_primNames:DataW Unit)) hL (.tail _ (.tail _ (.tail _ (.head _))))
 have h7:=Lib.laidMet.reads (d:=(Rows.laid_arraylang_syntax_opNames:DataW Unit)) hL (.tail _ (.tail _ (.tail _ (.tail _ (.head _)))))
 rw [db_eq] at h5
 rw [pn_eq] at h6
 rw [on_eq] at h7
 have hz:=tz_of h5
 refine ⟨⟨prims_of h6,ops_of h7⟩,hz,?_⟩
 rw [Tok.TZ] at hz
 exact World.block_lt_of_cell? W _ hz
end Go.Proofs.YtmfhdcpajgjgpaaGreatDoor.Syn
