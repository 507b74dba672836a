/- Layer 9: what the laws ask of the program: encode_any, decode_any, split_any. -/
import Derived.Test.YtadlkfdjdjaakaaDoorCkEnc
import Derived.Test.YtadlkfdjdjaakaaDoorCkDec
import Derived.Test.YtadlkfdjdjaakaaDoorCkSpl
